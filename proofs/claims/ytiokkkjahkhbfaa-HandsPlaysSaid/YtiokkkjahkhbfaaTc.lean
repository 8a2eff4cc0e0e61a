/- Part of a proof: see the text with the theorem. -/
import Derived.Test.YtiokkkjahkhbfaaTb
import Derived.Test.YtiokkkjahkhbfaaShF
set_option linter.all false
namespace Go.Proofs.Ytiokkkjahkhbfaa.walk
open Go Go.Sh
set_option maxRecDepth 100000
def inP (p:Int × (Int × Int)):Bool:=inH p.2.1 p.1 p.2.2
def rowT (n:Nat) (r:List Int) (f:List (Int × Int)):Bool:=decide (r.length=n) && (r.zip f).all inP
def truB (n:Nat) (tr:List (List Int)) (fs:List (List (Int × Int))):Bool:=decide (tr.length=fs.length) && (tr.zip fs).all fun p=>rowT n p.1 p.2
def chkT (vs:List HVn) (hs:List HHd) (fs:List (List (Int × Int))) (tr:List (List Int)):Int:=if chkH vs hs fs=0 then (if truB vs.length tr fs=true then 0 else 21) else chkH vs hs fs
theorem zip_get {α β:Type} {l:List α} {m:List β} {i:Nat} {a:α} {b:β} (h1:l[i]?=some a) (h2:m[i]?=some b):(l.zip m)[i]?=some (a,b):=by
 rw [List.getElem?_zip_eq_some]; exact ⟨h1,h2⟩
theorem sea_parts {vs:List HVn} {hs:List HHd} {fs:List (List (Int × Int))} (h:seaB vs hs fs=true):vs.length≤6∧1≤vs.length∧hs.length≤4∧1≤fs.length∧fs.length≤6∧(∀ v ∈ vs,vnB v=true)∧(∀ h ∈ hs,hhB vs.length h=true)∧∀ r ∈ fs,rowB vs.length r=true:=by
 simp only [seaB,vnsB,hhsB,mosB,Bool.and_eq_true,decide_eq_true_eq,List.all_eq_true] at h
 obtain ⟨⟨⟨a,b⟩,c⟩,⟨d,e⟩,⟨f,g⟩,k⟩:=h
 exact ⟨b,a,d,f,g,c,e,k⟩
theorem row_len {n:Nat} {r:List (Int × Int)} (h:rowB n r=true):r.length=n:=by
 simp only [rowB,Bool.and_eq_true,decide_eq_true_eq] at h; exact h.1
theorem chk0 {vs:List HVn} {hs:List HHd} {fs:List (List (Int × Int))}:chkH vs hs fs=0 ↔ seaB vs hs fs=true:=by
 unfold chkH; split <;> rename_i h <;> simp [h]
def S86:PSpec where
 R args w v:=∃ (vv hv fv tv:Value) (vs:List HVn) (hs:List HHd) (fs:List (List (Int × Int))) (tr:List (List Int)),args=[.agg ⟨[vv,hv,fv]⟩,tv]∧SeaV w vv hv fv vs hs fs∧Rows2 intC w tv tr∧seaB vs hs fs=true∧v=.bool (truB vs.length tr fs)
 uniq:=by
  rintro _ _ _ _ ⟨a,b,c,d,x,y,z,t,rfl,h1,k1,_,rfl⟩ ⟨_,_,_,_,x',y',z',t',h,h2,k2,_,rfl⟩
  cases h
  obtain ⟨rfl,rfl,rfl⟩:=h1.uniq h2
  rw [k1.uniq (m:=1) intC_length intC_inj k2]
 shut:=by rintro _ _ _ ⟨a,b,c,d,x,y,z,t,h,h1,k,s,e⟩; exact ⟨a,b,c,d,x,y,z,t,h,⟨h1.v,h1.h,h1.f⟩,k,s,e⟩
def S59:PSpec where
 R args w v:=∃ (vv hv fv tv:Value) (vs:List HVn) (hs:List HHd) (fs:List (List (Int × Int))) (tr:List (List Int)),args=[.agg ⟨[vv,hv,fv]⟩,tv]∧SeaV w vv hv fv vs hs fs∧Rows2 intC w tv tr∧v=.int .i64 (chkT vs hs fs tr)
 uniq:=by
  rintro _ _ _ _ ⟨a,b,c,d,x,y,z,t,rfl,h1,k1,rfl⟩ ⟨_,_,_,_,x',y',z',t',h,h2,k2,rfl⟩
  cases h
  obtain ⟨rfl,rfl,rfl⟩:=h1.uniq h2
  rw [k1.uniq (m:=1) intC_length intC_inj k2]
 shut:=by rintro _ _ _ ⟨a,b,c,d,x,y,z,t,h,h1,k,e⟩; exact ⟨a,b,c,d,x,y,z,t,h,⟨h1.v,h1.h,h1.f⟩,k,e⟩
section
variable {ov:Ov} {vs:List HVn} {hs:List HHd} {fs:List (List (Int × Int))} {tr:List (List Int)} {vv hv fv tv:Value} {w0:AW} {X:Nat}
theorem loop86b (M:Nat) (hS:SeaV w0 vv hv fv vs hs fs) (hX:X < w0.next) (gX:w0.heap.get X=some (.cells [vv,hv,fv] 26 false)) (m:Nat) (row:List Int) (frow:List (Int × Int)) (hf:fs[m]?=some frow) (hrl:row.length≤6) (hfl:frow.length=row.length) (rv:Value) (hrow:RowsV intC w0 rv row) (t:Tm) (w:AW) (hu0:Up w0 w) (hle0:w.lim≤w.next) (Q:Ex→Tm→AW→Prop) (v16 v17:Value) (t2:tget t 2=.pointer (some ⟨X,0,none⟩)) (t5:tget t 5=.int .i64 (m:Nat)) (t16:tget t 16=v16) (t17:tget t 17=v17) (t18:tget t 18=.int .i64 (m:Nat)) (t29:tget t 29=rv) (t30:tget t 30=.int .i64 (row.length:Nat)) (t31:tget t 31=.int .i64 0)
  (hbad:∀ t w,(row.zip frow).all inP=false→tget t 4=.bool false→Q .ret t w)
  (hQ:∀ t w,(row.zip frow).all inP=true→Up w0 w→w.lim≤w.next→tget t 2=.pointer (some ⟨X,0,none⟩)→tget t 16=v16→tget t 17=v17→tget t 18=.int .i64 (m:Nat)→Q (.exit 2) t w):wp (exM Try.prog (run Try.prog ov M) (.loop mc86_l1) t w) Q:=by
 refine wp_rounds (fun i t w'=>Up w0 w'∧w'.lim≤w'.next∧tget t 2=.pointer (some ⟨X,0,none⟩)∧tget t 5=.int .i64 (m:Nat)∧tget t 16=v16∧tget t 17=v17∧tget t 18=.int .i64 (m:Nat)∧tget t 29=rv∧tget t 30=.int .i64 (row.length:Nat)∧tget t 31=.int .i64 (i:Nat)∧i≤row.length∧((row.zip frow).take i).all inP=true) 20 (by decide) ⟨hu0,hle0,t2,t5,t16,t17,t18,t29,t30,by simpa using t31,Nat.zero_le _,by simp⟩ ?_
 clear t2 t5 t16 t17 t18 t29 t30 t31 hu0 hle0 t w
 rintro i t w ⟨hu,hle,t2,t5,t16,t17,t18,t29,t30,t31,hi,ha⟩
 have gX':=(hu.at hX).trans gX
 have hS':=hS.up hu
 obtain ⟨nv,nh,nf⟩:=hS'.nj
 have hXn:¬ X=w.next:=by have:=hu.next; omega
 by_cases hlt:i < row.length
 ·obtain ⟨z,hz⟩:=lt_get hlt
  obtain ⟨f,hfz⟩:=lt_get (show i < frow.length by omega)
  have hzip:=zip_get hz hfz
  have has:=all_tk (p:=inP) hzip
  obtain ⟨p1,ia1,_,ld1,pb1⟩:=getR un42 sz3 intC_length (hrow.up hu) rfl hz
  have ld1:=ld1 0 _ rfl
  simp only [Nat.add_zero] at ld1
  obtain ⟨q,ra,rc,ia2,ld2,_,hfr⟩:=Rows2.get un24 sz69 hS'.f rfl hf
  obtain ⟨p3,ia3,ld3,_,pb3⟩:=getR un69 sz34 hsC_length hfr rfl hfz
  have hw1:IntKind.wrap .i64 ((i:Int) + 1)=(i:Int) + 1:=wrap64_in (by omega) (by omega)
  obtain ⟨f1,f2⟩:=f
  simp only [hsC] at ld3
  have u1:Up w0 ⟨(w.heap.put w.next (some (.cells [.int .i64 0,.int .i64 0] 34 false))).put w.next (some (.cells [.int .i64 f1,.int .i64 f2] 34 false)),w.next + 1,w.lim⟩:=(hu.add _).put hu.next (Nat.le_refl _)
  by_cases k1:z < f1
  ·have e:inP (z,(f1,f2))=false:=by simp only [inP,inH]; simp; omega
   simp [mc86_l1,t2,t5,t18,t29,t30,t31,hlt,gX',hXn,nf,ia1,ld1,ia2,ld2,ia3,ld3,hle,k1]
   exact hbad _ _ (all_bd hzip e) (by simp)
  ·by_cases k2:f2 < z
   ·have e:inP (z,(f1,f2))=false:=by simp only [inP,inH]; simp; omega
    simp [mc86_l1,t2,t5,t18,t29,t30,t31,hlt,gX',hXn,nf,ia1,ld1,ia2,ld2,ia3,ld3,hle,k1,k2]
    exact hbad _ _ (all_bd hzip e) (by simp)
   ·have e:inP (z,(f1,f2))=true:=by simp only [inP,inH]; simp; omega
    rw [ha,e] at has
    simp [mc86_l1,t2,t5,t16,t17,t18,t29,t30,t31,hlt,gX',hXn,nf,ia1,ld1,ia2,ld2,ia3,ld3,hle,k1,k2,hw1]
    exact ⟨by omega,u1,hlt,by simpa using has⟩
 ·have hi':i=(row.zip frow).length:=by rw [List.length_zip]; omega
  have hi2:i=row.length:=by omega
  rw [hi'] at ha
  have e:=all_fl ha
  simp [mc86_l1,t30,t31,hi2]
  exact hQ _ _ e hu hle (by simp [t2]) (by simp [t16]) (by simp [t17]) (by simp [t18])
end
theorem run86 {ov:Ov} (ho:∀ args w,ov 86 args w=none) (vs:List HVn) (hs:List HHd) (fs:List (List (Int × Int))) (tr:List (List Int)) (vv hv fv tv:Value) (w:AW) (hl:w.lim=w.next) (hS:SeaV w vv hv fv vs hs fs) (hT:Rows2 intC w tv tr) (hB:seaB vs hs fs=true):∃ x w',(run Try.prog ov 2).call 86 [.agg ⟨[vv,hv,fv]⟩,tv] w .none=.ok (.ret x) w' .none∧x=.bool (truB vs.length tr fs):=by
 refine call_wp text86 (by simp) (ho _ _) ?_
 obtain ⟨w1,hw1⟩:∃ w1:AW,w1=⟨w.heap.put w.next (some (.cells [vv,hv,fv] 26 false)),w.next + 1,w.lim⟩:=⟨_,rfl⟩
 have u1:Up w w1:=by rw [hw1]; exact (Up.refl w).add _
 have hS1:=hS.up u1
 have hT1:=hT.up u1
 obtain ⟨nv,nh,nf⟩:=hS.nj
 have n1:w1.next=w.next + 1:=by rw [hw1]
 have gX:w1.heap.get w.next=some (.cells [vv,hv,fv] 26 false):=by rw [hw1]; show (w.heap.put _ _).get _=_; rw [get_put,if_pos rfl]
 have hl1:=fun w2=>len22V (w':=w2) hS.v
 have hl3:=fun w2=>len24V (w':=w2) hS.f
 have hl4:=fun w2=>len27V (w':=w2) hT
 have hle1:w1.lim≤w1.next:=by rw [hw1]; show w.lim≤w.next + 1; omega
 obtain ⟨b1,b2,b3,b4,b5,b6,b7,b8⟩:=sea_parts hB
 by_cases k0:tr.length=fs.length
 ·have k0':(tr.length:Int)=(fs.length:Int):=by omega
  simp [mc86,cellsOf_agg,nv,nh,nf,hl1,hl3,hl4,k0,k0']
  rw [← hw1]
  refine wp_seqX (wp_blockX (wp_rounds (fun i t w'=>Up w1 w'∧w'.lim≤w'.next∧tget t 2=.pointer (some ⟨w.next,0,none⟩)∧tget t 16=tv∧tget t 17=.int .i64 (fs.length:Nat)∧tget t 18=.int .i64 (i:Nat)∧i≤fs.length∧((tr.zip fs).take i).all (fun p=>rowT vs.length p.1 p.2)=true) 20 (by decide) ?_ ?_))
  ·refine ⟨Up.refl _,hle1,by simp,by simp,by simp,by simp,by omega,by simp⟩
  ·rintro i t w' ⟨hu,hle,t2,t16,t17,t18,hi,ha⟩
   have gX':=(hu.at (show w.next < w1.next by omega)).trans gX
   have hS':=hS1.up hu
   by_cases hlt:i < fs.length
   ·obtain ⟨frow,hf⟩:=lt_get hlt
    obtain ⟨row,hr⟩:=lt_get (show i < tr.length by omega)
    have hzip:=zip_get hr hf
    have has:=all_tk (p:=fun p=>rowT vs.length p.1 p.2) hzip
    obtain ⟨p,ra,rc,hia,hld,hpb,hrow⟩:=Rows2.get un27 sz42 (hT1.up hu) rfl hr
    have hw1':IntKind.wrap .i64 ((i:Int) + 1)=(i:Int) + 1:=wrap64_in (by omega) (by omega)
    have hfl:=row_len (b8 _ (List.mem_of_getElem? hf))
    have hbad:rowT vs.length row frow=false→truB vs.length tr fs=false:=fun h=>by
     simp only [truB]
     rw [all_bd (p:=fun p=>rowT vs.length p.1 p.2) hzip h,Bool.and_false]
    by_cases k1:row.length=vs.length
    ·have k1':(row.length:Int)=(vs.length:Int):=by omega
     simp [mc86_l0,t2,t16,t17,t18,hlt,hia,hld,gX',nv,nh,nf,hl1,k1']
     rw [← k1']
     refine wp_seqX (wp_blockX (wp_blockX (loop86b 1 (hS1.up hu) (by have:=hu.next; omega) gX' i row frow hf (by omega) (by omega) _ hrow _ w' (Up.refl _) hle _ _ _ ?_ ?_ rfl rfl ?_ ?_ ?_ ?_ ?_ ?_)))
     ·simp [t2]
     ·simp [t18]
     ·simp [t18]
     ·simp
     ·simp
     ·simp
     ·intro t w2 e t4
      have e:=hbad (by simp [rowT,e])
      simp [t4,e,tupV]
     ·intro t w2 e u2 hle2 s2 s16 s17 s18
      have e2:rowT vs.length row frow=true:=by simp [rowT,e,k1]
      rw [ha] at has
      simp only [e2,Bool.and_true] at has
      simp at s16 s17
      simp [s2,s16,s17,s18,t16,t17,hw1']
      exact ⟨by omega,hu.trans u2,hle2,hlt,by simpa using has⟩
    ·have k1':¬ (row.length:Int)=(vs.length:Int):=by omega
     have e:=hbad (by simp [rowT,k1])
     simp [mc86_l0,t2,t16,t17,t18,hlt,hia,hld,gX',nv,nh,nf,hl1,k1',e,tupV]
   ·have hi':i=(tr.zip fs).length:=by rw [List.length_zip]; omega
    have hi2:i=fs.length:=by omega
    rw [hi'] at ha
    have e:truB vs.length tr fs=true:=by
     simp only [truB,all_fl ha,decide_eq_true k0,Bool.and_self]
    simp [mc86_l0,t17,t18,hi2,e,tupV]
 ·have k0':¬ (tr.length:Int)=(fs.length:Int):=by omega
  have e:truB vs.length tr fs=false:=by simp [truB,k0]
  simp [mc86,cellsOf_agg,nv,nh,nf,hl1,hl3,hl4,k0,k0',e,tupV]
theorem run59 {ov:Ov} (ho:∀ args w,ov 59 args w=none) (h14:HasP ov 14 S14.F) (h86:HasP ov 86 S86.F) (vs:List HVn) (hs:List HHd) (fs:List (List (Int × Int))) (tr:List (List Int)) (vv hv fv tv:Value) (w:AW) (hl:w.lim=w.next) (hS:SeaV w vv hv fv vs hs fs) (hT:Rows2 intC w tv tr):∃ x w',(run Try.prog ov 2).call 59 [.agg ⟨[vv,hv,fv]⟩,tv] w .none=.ok (.ret x) w' .none∧x=.int .i64 (chkT vs hs fs tr):=by
 refine call_wp text59 (by simp) (ho _ _) ?_
 obtain ⟨w1,hw1⟩:∃ w1:AW,w1=⟨w.heap.put w.next (some (.cells [vv,hv,fv] 26 false)),w.next + 1,w.lim⟩:=⟨_,rfl⟩
 have u1:Up w w1:=by rw [hw1]; exact (Up.refl w).add _
 have hS1:=hS.up u1
 have hT1:=hT.up u1
 obtain ⟨nv,nh,nf⟩:=hS.nj
 have nt:notJunk tv=some tv:=by obtain ⟨x,y,rfl⟩:=hT.len; rfl
 have r14:=S14.call1 (P:=Try.prog) h14 (w:=w1) ⟨vv,hv,fv,vs,hs,fs,rfl,hS1,rfl⟩
 rw [hw1] at r14
 by_cases k:chkH vs hs fs=0
 ·have r86:=S86.call1 (P:=Try.prog) h86 (w:=w1) ⟨vv,hv,fv,tv,vs,hs,fs,tr,rfl,hS1,hT1,chk0.1 k,rfl⟩
  rw [hw1] at r86
  cases k2:truB vs.length tr fs with
  | true =>
   have e:chkT vs hs fs tr=0:=by simp [chkT,k,k2]
   simp [mc59,cellsOf_agg,nv,nh,nf,nt,r14,k,r86,k2,e,tupV]
  | false =>
   have e:chkT vs hs fs tr=21:=by simp [chkT,k,k2]
   simp [mc59,cellsOf_agg,nv,nh,nf,nt,r14,k,r86,k2,e,tupV]
 ·have e:chkT vs hs fs tr=chkH vs hs fs:=by simp [chkT,k]
  simp [mc59,cellsOf_agg,nv,nh,nf,nt,r14,k,e,tupV]
section
variable {ov:Ov} {vs:List HVn} {hs:List HHd} {fs:List (List (Int × Int))} {tr:List (List Int)} {vv hv fv tv:Value} {w0:AW} {X:Nat}
theorem loop57b (h38:HasP ov 38 S38.F) (hS:SeaV w0 vv hv fv vs hs fs) (hT:Rows2 intC w0 tv tr) (hX:X < w0.next) (gX:w0.heap.get X=some (.cells [vv,hv,fv] 26 false)) (hv6:vs.length≤6) (m:Nat) (row:List Int) (frow:List (Int × Int)) (hr:tr[m]?=some row) (hf:fs[m]?=some frow) (hfl:frow.length=vs.length) (b0:Bool) (hb:b0=decide (row.length=vs.length)) (t:Tm) (w:AW) (hu0:Up w0 w) (hle0:w.lim≤w.next) (Q:Ex→Tm→AW→Prop) (t1:tget t 1=tv) (t2:tget t 2=.pointer (some ⟨X,0,none⟩)) (t6:tget t 6=.bool b0) (t7:tget t 7=.int .i64 (m:Nat)) (t8:tget t 8=.int .i64 0)
  (hQ:∀ t w,Up w0 w→w.lim≤w.next→tget t 1=tv→tget t 2=.pointer (some ⟨X,0,none⟩)→tget t 7=.int .i64 (m:Nat)→tget t 6=.bool (b0 && (row.zip frow).all inP)→Q (.exit 2) t w):wp (exM Try.prog (run Try.prog ov 1) (.loop mc57_l1) t w) Q:=by
 refine wp_rounds (fun i t w'=>Up w0 w'∧w'.lim≤w'.next∧tget t 1=tv∧tget t 2=.pointer (some ⟨X,0,none⟩)∧tget t 6=.bool (okI b0 inP (row.zip frow) i)∧tget t 7=.int .i64 (m:Nat)∧tget t 8=.int .i64 (i:Nat)∧(b0=true→i≤row.length)) 20 (by decide) ⟨hu0,hle0,t1,t2,by rw [okI_zero]; exact t6,t7,by simpa using t8,fun _=>Nat.zero_le _⟩ ?_
 clear t1 t2 t6 t7 t8 hu0 hle0 t w
 rintro i t w ⟨hu,hle,t1,t2,t6,t7,t8,hi⟩
 have gX':=(hu.at hX).trans gX
 have hS':=hS.up hu
 have hl1:=fun w2=>len22V (w':=w2) hS'.v
 obtain ⟨nv,nh,nf⟩:=hS'.nj
 cases k:okI b0 inP (row.zip frow) i with
 | false =>
  rw [k] at t6
  have e:=okI_end (l:=row.zip frow) (i:=i) (.inl k)
  rw [k] at e
  simp [mc57_l1,t1,t2,t6,t8]
  exact hQ _ _ hu hle (by simp [t1]) (by simp [t2]) (by simp [t7]) (by simp [t6,← e])
 | true =>
  rw [k] at t6
  have hb1:b0=true:=by simp only [okI,Bool.and_eq_true] at k; exact k.1
  have hle2:=hi hb1
  have hrl:row.length=vs.length:=by rw [hb1] at hb; exact of_decide_eq_true hb.symm
  by_cases hlt:i < vs.length
  ·obtain ⟨q,ra,rc,hia,hld,hqb,hrow⟩:=Rows2.get un27 sz42 (hT.up hu) rfl hr
   obtain ⟨q2,ra2,rc2,hia2,hld2,hqb2,hrow2⟩:=Rows2.get un24 sz69 hS'.f rfl hf
   obtain ⟨z,hz⟩:=lt_get (show i < row.length by omega)
   obtain ⟨f,hfz⟩:=lt_get (show i < frow.length by omega)
   obtain ⟨p1,ia1,_,ld1,_⟩:=getR un42 sz3 intC_length hrow rfl hz
   obtain ⟨p2,ia2,_,ld2,_⟩:=getR un69 sz34 hsC_length hrow2 rfl hfz
   have d0:=ld1 0 _ rfl
   have d1:=ld2 0 _ rfl
   have d2:=ld2 1 _ rfl
   simp only [Nat.add_zero] at d0 d1
   have hw1:IntKind.wrap .i64 ((i:Int) + 1)=(i:Int) + 1:=wrap64_in (by omega) (by omega)
   have has:=okI_next k (zip_get hz hfz)
   have r38:=fun n a b w=>S38.call1 (P:=Try.prog) h38 (w:=w) ⟨n,a,b,rfl,rfl⟩
   have e:inP (z,f)=inH f.1 z f.2:=rfl
   rw [e] at has
   simp [mc57_l1,t1,t2,t6,t7,t8,gX',nv,nh,nf,hl1,hlt,hia,hld,hia2,hld2,ia1,ia2,d0,d1,d2,hle,r38,hw1]
   exact ⟨by omega,hu,by simp [has],fun _=>by omega⟩
  ·have hi':i=(row.zip frow).length:=by rw [List.length_zip]; omega
   have e:=okI_end (b0:=b0) (p:=inP) (l:=row.zip frow) (i:=i) (.inr hi')
   rw [k] at e
   simp [mc57_l1,t1,t2,t6,t8,gX',nv,nh,nf,hl1,hlt]
   exact hQ _ _ hu hle (by simp [t1]) (by simp [t2]) (by simp [t7]) (by simp [t6,← e])
end
theorem run57 {ov:Ov} (ho:∀ args w,ov 57 args w=none) (h15:HasP ov 15 S14.F) (h38:HasP ov 38 S38.F) (vs:List HVn) (hs:List HHd) (fs:List (List (Int × Int))) (tr:List (List Int)) (vv hv fv tv:Value) (w:AW) (hl:w.lim=w.next) (hS:SeaV w vv hv fv vs hs fs) (hT:Rows2 intC w tv tr):∃ x w',(run Try.prog ov 2).call 57 [.agg ⟨[vv,hv,fv]⟩,tv] w .none=.ok (.ret x) w' .none∧x=.int .i64 (chkT vs hs fs tr):=by
 refine call_wp text57 (by simp) (ho _ _) ?_
 obtain ⟨w1,hw1⟩:∃ w1:AW,w1=⟨w.heap.put w.next (some (.cells [vv,hv,fv] 26 false)),w.next + 1,w.lim⟩:=⟨_,rfl⟩
 have u1:Up w w1:=by rw [hw1]; exact (Up.refl w).add _
 have hS1:=hS.up u1
 have hT1:=hT.up u1
 obtain ⟨nv,nh,nf⟩:=hS.nj
 have nt:notJunk tv=some tv:=by obtain ⟨x,y,rfl⟩:=hT.len; rfl
 have n1:w1.next=w.next + 1:=by rw [hw1]
 have gX:w1.heap.get w.next=some (.cells [vv,hv,fv] 26 false):=by rw [hw1]; show (w.heap.put _ _).get _=_; rw [get_put,if_pos rfl]
 have hl1:=fun w2=>len22V (w':=w2) hS.v
 have hl3:=fun w2=>len24V (w':=w2) hS.f
 have hl4:=fun w2=>len27V (w':=w2) hT
 have hle1:w1.lim≤w1.next:=by rw [hw1]; show w.lim≤w.next + 1; omega
 have r15:=S14.call1 (P:=Try.prog) h15 (w:=w1) ⟨vv,hv,fv,vs,hs,fs,rfl,hS1,rfl⟩
 rw [hw1] at r15
 by_cases kc:chkH vs hs fs=0
 ·obtain ⟨b1,b2,b3,b4,b5,b6,b7,b8⟩:=sea_parts (chk0.1 kc)
  obtain ⟨b0,hb0⟩:∃ b0:Bool,b0=decide (tr.length=fs.length):=⟨_,rfl⟩
  simp [mc57,cellsOf_agg,nv,nh,nf,nt,hl1,hl3,hl4,r15,kc]
  rw [← hw1]
  refine wp_seqX (wp_blockX (wp_rounds (fun i t w'=>Up w1 w'∧w'.lim≤w'.next∧tget t 1=tv∧tget t 2=.pointer (some ⟨w.next,0,none⟩)∧tget t 6=.bool (okI b0 (fun p=>rowT vs.length p.1 p.2) (tr.zip fs) i)∧tget t 7=.int .i64 (i:Nat)∧(b0=true→i≤fs.length)) 20 (by decide) ?_ ?_))
  ·refine ⟨Up.refl _,hle1,by simp,by simp,?_,by simp,fun _=>Nat.zero_le _⟩
   rw [okI_zero,hb0]; simp; omega
  ·rintro i t w' ⟨hu,hle,t1,t2,t6,t7,hi⟩
   have gX':=(hu.at (show w.next < w1.next by omega)).trans gX
   have hS':=hS1.up hu
   cases k:okI b0 (fun p=>rowT vs.length p.1 p.2) (tr.zip fs) i with
   | false =>
    rw [k] at t6
    have e:=okI_end (l:=tr.zip fs) (i:=i) (.inl k)
    rw [k] at e
    have e2:chkT vs hs fs tr=21:=by
     have:truB vs.length tr fs=false:=by rw [e,hb0]; rfl
     simp [chkT,kc,this]
    simp [mc57_l0,t1,t2,t6,t7,e2,tupV]
   | true =>
    rw [k] at t6
    have hb1:b0=true:=by simp only [okI,Bool.and_eq_true] at k; exact k.1
    have hle2:=hi hb1
    have htl:tr.length=fs.length:=by rw [hb1] at hb0; exact of_decide_eq_true hb0.symm
    by_cases hlt:i < fs.length
    ·obtain ⟨frow,hf⟩:=lt_get hlt
     obtain ⟨row,hr⟩:=lt_get (show i < tr.length by omega)
     have has:=okI_next k (zip_get hr hf)
     obtain ⟨p,ra,rc,hia,hld,hpb,hrow⟩:=Rows2.get un27 sz42 (hT1.up hu) rfl hr
     have hw1':IntKind.wrap .i64 ((i:Int) + 1)=(i:Int) + 1:=wrap64_in (by omega) (by omega)
     have hfl:=row_len (b8 _ (List.mem_of_getElem? hf))
     have hlt':i < tr.length:=by omega
     simp [mc57_l0,t1,t2,t6,t7,hlt,hlt',hl4,hia,hld,gX',nv,nh,nf,hl1]
     refine wp_seqX (wp_blockX (wp_blockX (loop57b h38 (hS1.up hu) (hT1.up hu) (by have:=hu.next; omega) gX' b1 i row frow hr hf hfl (decide (row.length=vs.length)) rfl _ w' (Up.refl _) hle _ ?_ ?_ ?_ ?_ ?_ ?_)))
     ·simp [t1]
     ·simp [t2]
     ·simp; omega
     ·simp [t7]
     ·simp
     ·intro t w2 u2 hle2 s1 s2 s7 s6
      have e:rowT vs.length row frow=(decide (row.length=vs.length) && (row.zip frow).all inP):=rfl
      simp only at has
      rw [e] at has
      simp [s1,s2,s7,hw1']
      exact ⟨by omega,hu.trans u2,hle2,by rw [s6,has],fun _=>by omega⟩
    ·have hi':i=(tr.zip fs).length:=by rw [List.length_zip]; omega
     have e:=okI_end (b0:=b0) (p:=fun p=>rowT vs.length p.1 p.2) (l:=tr.zip fs) (i:=i) (.inr hi')
     rw [k] at e
     have e2:chkT vs hs fs tr=0:=by
      have:truB vs.length tr fs=true:=by rw [e,hb0]; rfl
      simp [chkT,kc,this]
     have hlt':¬ i < tr.length:=by omega
     simp [mc57_l0,t1,t2,t6,t7,hlt,hlt',hl4,e2,tupV]
 ·have e:chkT vs hs fs tr=chkH vs hs fs:=by simp [chkT,kc]
  simp [mc57,cellsOf_agg,nv,nh,nf,nt,r15,kc,e,tupV]
theorem smi3 (a b c:Int):sameVal 5 (.agg ⟨[.int .i64 a,.int .i64 b,.int .i64 c]⟩) (.agg ⟨[.int .i64 a,.int .i64 b,.int .i64 c]⟩)=true:=same_agg _ (by
 intro v hv
 simp only [List.mem_cons,List.not_mem_nil,or_false] at hv
 rcases hv with rfl | rfl | rfl <;> exact sameN_int 3 _ _)
theorem smi5 (a b c d e:Int):sameVal 5 (.agg ⟨[.int .i64 a,.int .i64 b,.int .i64 c,.int .i64 d,.int .i64 e]⟩) (.agg ⟨[.int .i64 a,.int .i64 b,.int .i64 c,.int .i64 d,.int .i64 e]⟩)=true:=same_agg _ (by
 intro v hv
 simp only [List.mem_cons,List.not_mem_nil,or_false] at hv
 rcases hv with rfl | rfl | rfl | rfl | rfl <;> exact sameN_int 3 _ _)
theorem same_rows {α:Type} {f:α→List Value} {w:AW} {v:Value} {l:List α} (h:RowsV f w v l):sameVal 5 v v=true:=by
 obtain ⟨x,y,e⟩:=h.len
 rw [e]; exact same_slice _ _ _
def hnC (h:HHd) (gv:Value):List Value:=[.int .i64 h.vs,.int .i64 h.fr,.int .i64 h.to,.int .i64 h.ra,.int .i64 h.da,gv]
def S72:PSpec where
 R args w v:=∃ (h:HHd) (gv:Value) (vs:List HVn) (x:HVn) (ho:Int) (k:Nat),args=[.agg ⟨hnC h gv⟩,.int .i64 ho,.int .i64 (k:Nat)]∧RowsV vnC w gv vs∧vs[k]?=some x∧v=.bool (canH h x ho (k:Nat))
 uniq:=by
  rintro _ _ _ _ ⟨⟨a,b,c,d,e⟩,gv,vs,x,ho,k,rfl,h1,h2,rfl⟩ ⟨⟨a',b',c',d',e'⟩,gv',vs',x',ho',k',h,h3,h4,rfl⟩
  simp only [hnC,List.cons.injEq,and_true,Value.agg.injEq,Array.mk.injEq,Value.int.injEq,true_and] at h
  obtain ⟨⟨rfl,rfl,rfl,rfl,rfl,rfl⟩,rfl,hk⟩:=h
  have:=Int.ofNat.inj hk; subst this
  have:=h1.uniq (m:=3) vnC_length vnC_inj h3; subst this
  rw [h2] at h4; cases h4; rfl
 shut h:=h
theorem run72 {ov:Ov} (ho:∀ args w,ov 72 args w=none) (h87:HasP ov 87 S70.F) (h:HHd) (gv:Value) (vs:List HVn) (x:HVn) (hour:Int) (k:Nat) (w:AW) (hl:w.lim=w.next) (hg:RowsV vnC w gv vs) (hx:vs[k]?=some x):∃ v w',(run Try.prog ov 2).call 72 [.agg ⟨hnC h gv⟩,.int .i64 hour,.int .i64 (k:Nat)] w .none=.ok (.ret v) w' .none∧v=.bool (canH h x hour (k:Nat)):=by
 refine call_wp text72 (by simp) (ho _ _) ?_
 have u1:Up w ⟨w.heap.put w.next (some (.cells (hnC h gv) 87 false)),w.next + 1,w.lim⟩:=(Up.refl w).add _
 have gj:notJunk gv=some gv:=by obtain ⟨x,y,rfl⟩:=hg.len; rfl
 obtain ⟨p,hia,hld,_,hpb⟩:=getR un22 sz65 vnC_length hg rfl hx
 have r87:=fun w=>S70.call1 (P:=Try.prog) h87 (w:=w) ⟨h.vs,(k:Nat),rfl,Int.natCast_nonneg k,rfl⟩
 obtain ⟨a1,a2,a3⟩:=x
 simp only [vnC] at hld
 have hle:w.lim≤w.next + 1:=by omega
 have ne1:¬ p.block=w.next:=by omega
 have ne2:¬ p.block=w.next + 1:=by omega
 simp only [hnC]
 simp only [canH]
 cases k0:bitB h.vs (k:Nat) with
 | false =>
  rw [k0] at r87
  simp [mc72,cellsOf_agg,gj,hia,hld,ne1,ne2,hle,r87,tupV]
 | true =>
  rw [k0] at r87
  by_cases k1:h.fr≤hour
  ·by_cases k2:hour≤h.to
   ·by_cases k3:a1≤hour
    ·simp [mc72,cellsOf_agg,gj,hia,hld,ne1,ne2,hle,r87,k1,k2,k3,tupV]
    ·simp [mc72,cellsOf_agg,gj,hia,hld,ne1,ne2,hle,r87,k1,k2,k3,tupV]
   ·simp [mc72,cellsOf_agg,gj,hia,hld,ne1,ne2,hle,r87,k1,k2,tupV]
  ·simp [mc72,cellsOf_agg,gj,hia,hld,ne1,ne2,hle,r87,k1,tupV]
theorem can_inH (h:HHd) (x:HVn) (ho k:Int):canH h x ho k=(bitB h.vs k && inH (max h.fr x.fr) ho (min h.to x.to)):=by
 unfold canH inH
 cases bitB h.vs k with
 | false=>rfl
 | true =>
  rw [Bool.eq_iff_iff]
  simp only [Bool.true_and,Bool.and_eq_true,decide_eq_true_eq]
  omega
def S45:PSpec where
 R args w v:=∃ (vv hv fv:Value) (vs:List HVn) (hs:List HHd) (fs:List (List (Int × Int))) (h:HHd) (x:HVn) (ha vi:Nat) (ho:Int),args=[.agg ⟨[vv,hv,fv]⟩,.int .i64 (ha:Nat),.int .i64 (vi:Nat),.int .i64 ho]∧SeaV w vv hv fv vs hs fs∧hs[ha]?=some h∧vs[vi]?=some x∧v=.bool (canH h x ho (vi:Nat))
 uniq:=by
  rintro _ _ _ _ ⟨a,b,c,vs,hs,fs,h,x,ha,vi,ho,rfl,h1,h2,h3,rfl⟩ ⟨a',b',c',vs',hs',fs',h',x',ha',vi',ho',e,k1,k2,k3,rfl⟩
  simp only [List.cons.injEq,and_true,Value.agg.injEq,Array.mk.injEq,Value.int.injEq,true_and] at e
  obtain ⟨⟨rfl,rfl,rfl⟩,e1,e2,rfl⟩:=e
  have:=Int.ofNat.inj e1; subst this
  have:=Int.ofNat.inj e2; subst this
  obtain ⟨rfl,rfl,rfl⟩:=h1.uniq k1
  rw [h2] at k2; rw [h3] at k3; cases k2; cases k3; rfl
 shut:=by rintro _ _ _ ⟨a,b,c,vs,hs,fs,h,x,ha,vi,ho,e,h1,h2⟩; exact ⟨a,b,c,vs,hs,fs,h,x,ha,vi,ho,e,⟨h1.v,h1.h,h1.f⟩,h2⟩
theorem run45 {ov:Ov} (ho':∀ args w,ov 45 args w=none) (h70:HasP ov 70 S70.F) (h38:HasP ov 38 S38.F) (vv hv fv:Value) (vs:List HVn) (hs:List HHd) (fs:List (List (Int × Int))) (h:HHd) (x:HVn) (ha vi:Nat) (ho:Int) (w:AW) (hl:w.lim=w.next) (hS:SeaV w vv hv fv vs hs fs) (hh:hs[ha]?=some h) (hx:vs[vi]?=some x):∃ v w',(run Try.prog ov 2).call 45 [.agg ⟨[vv,hv,fv]⟩,.int .i64 (ha:Nat),.int .i64 (vi:Nat),.int .i64 ho] w .none=.ok (.ret v) w' .none∧v=.bool (canH h x ho (vi:Nat)):=by
 refine call_wp text45 (by simp) (ho' _ _) ?_
 have u1:Up w ⟨w.heap.put w.next (some (.cells [vv,hv,fv] 26 false)),w.next + 1,w.lim⟩:=(Up.refl w).add _
 obtain ⟨nv,nh,nf⟩:=hS.nj
 obtain ⟨p,hia,hld,_,hpb⟩:=getR un22 sz65 vnC_length hS.v rfl hx
 obtain ⟨q,hib,hle,_,hqb⟩:=getR un23 sz77 hhC_length hS.h rfl hh
 have r70:=fun w=>S70.call1 (P:=Try.prog) h70 (w:=w) ⟨h.vs,(vi:Nat),rfl,Int.natCast_nonneg vi,rfl⟩
 have r38:=fun n a b w=>S38.call1 (P:=Try.prog) h38 (w:=w) ⟨n,a,b,rfl,rfl⟩
 rw [can_inH]
 obtain ⟨a1,a2,a3⟩:=x
 obtain ⟨b0,b1,b2,b3,b4⟩:=h
 simp only [vnC] at hld
 simp only [hhC] at hle
 have e1:¬ p.block=w.next + 1:=by omega
 have e2:¬ q.block=w.next + 1:=by omega
 have e1':¬ p.block=w.next + 1 + 1:=by omega
 have e2':¬ q.block=w.next + 1 + 1:=by omega
 have e0:¬ p.block=w.next:=by omega
 have e0':¬ q.block=w.next:=by omega
 have g1:w.lim≤w.next + 1:=by omega
 have g2:w.lim≤w.next + 1 + 1:=by omega
 simp only at r70
 have sv:=same_rows hS.v
 have sh:=same_rows hS.h
 cases k0:bitB b0 (vi:Nat) with
 | false =>
  rw [k0] at r70
  simp [mc45,cellsOf_agg,nv,nh,nf,hia,hld,hib,hle,e0,e0',e1,e2,e1',e2',g1,g2,smi3,smi5,sv,sh,r70,tupV]
 | true =>
  rw [k0] at r70
  simp [mc45,cellsOf_agg,nv,nh,nf,hia,hld,hib,hle,e0,e0',e1,e2,e1',e2',g1,g2,smi3,smi5,sv,sh,r70,r38,tupV]
theorem inH0 (z:Int) (n:Nat):inH 0 z ((n:Int) - 1)=decide (0≤z∧z < (n:Int)):=by
 rw [Bool.eq_iff_iff]; simp [inH]; omega
theorem jobB_eq (nv nh M:Nat) (j:HJb):jobB nv nh M j=(inH 0 j.mo ((M:Int) - 1) && (inH 0 j.ha ((nh:Int) - 1) && inH 0 j.vi ((nv:Int) - 1))):=by
 rw [inH0,inH0,inH0,Bool.eq_iff_iff]
 simp only [jobB,Bool.and_eq_true,decide_eq_true_eq]
 omega
def S98:PSpec where
 R args w v:=∃ (vv hv fv:Value) (vs:List HVn) (hs:List HHd) (fs:List (List (Int × Int))) (j:HJb),args=[.agg ⟨[vv,hv,fv]⟩,.agg ⟨jbC j⟩]∧SeaV w vv hv fv vs hs fs∧vs.length≤6∧hs.length≤6∧fs.length≤6∧v=.bool (jobB vs.length hs.length fs.length j)
 uniq:=by
  rintro _ _ _ _ ⟨a,b,c,vs,hs,fs,j,rfl,h1,_,_,_,rfl⟩ ⟨a',b',c',vs',hs',fs',j',e,k1,_,_,_,rfl⟩
  simp only [List.cons.injEq,and_true,Value.agg.injEq,Array.mk.injEq,true_and] at e
  obtain ⟨⟨rfl,rfl,rfl⟩,e1⟩:=e
  obtain ⟨rfl,rfl,rfl⟩:=h1.uniq k1
  rw [jbC_inj _ _ e1]
 shut:=by rintro _ _ _ ⟨a,b,c,vs,hs,fs,j,e,h1,h2⟩; exact ⟨a,b,c,vs,hs,fs,j,e,⟨h1.v,h1.h,h1.f⟩,h2⟩
theorem run98 {ov:Ov} (ho':∀ args w,ov 98 args w=none) (h74:HasP ov 74 S74.F) (vv hv fv:Value) (vs:List HVn) (hs:List HHd) (fs:List (List (Int × Int))) (j:HJb) (w:AW) (hl:w.lim=w.next) (hS:SeaV w vv hv fv vs hs fs) (b1:vs.length≤6) (b2:hs.length≤6) (b3:fs.length≤6):∃ v w',(run Try.prog ov 2).call 98 [.agg ⟨[vv,hv,fv]⟩,.agg ⟨jbC j⟩] w .none=.ok (.ret v) w' .none∧v=.bool (jobB vs.length hs.length fs.length j):=by
 refine call_wp text98 (by simp) (ho' _ _) ?_
 obtain ⟨nv,nh,nf⟩:=hS.nj
 have hl1:=fun w2=>len22V (w':=w2) hS.v
 have hl2:=fun w2=>len23V (w':=w2) hS.h
 have hl3:=fun w2=>len24V (w':=w2) hS.f
 have r74:=fun n a w=>S74.call1 (P:=Try.prog) h74 (w:=w) ⟨n,a,rfl,rfl⟩
 have e1:IntKind.wrap .i64 ((vs.length:Int) - 1)=(vs.length:Int) - 1:=wrap64_in (by omega) (by omega)
 have e2:IntKind.wrap .i64 ((hs.length:Int) - 1)=(hs.length:Int) - 1:=wrap64_in (by omega) (by omega)
 have e3:IntKind.wrap .i64 ((fs.length:Int) - 1)=(fs.length:Int) - 1:=wrap64_in (by omega) (by omega)
 rw [jobB_eq]
 obtain ⟨mo,hr,ha,vi,ma⟩:=j
 simp only [jbC]
 cases k1:inH 0 mo ((fs.length:Int) - 1) with
 | false=>simp [mc98,cellsOf_agg,nv,nh,nf,hl1,hl2,hl3,e1,e2,e3,r74,k1,tupV]
 | true =>
  cases k2:inH 0 ha ((hs.length:Int) - 1) with
  | false=>simp [mc98,cellsOf_agg,nv,nh,nf,hl1,hl2,hl3,e1,e2,e3,r74,k1,k2,tupV]
  | true=>simp [mc98,cellsOf_agg,nv,nh,nf,hl1,hl2,hl3,e1,e2,e3,r74,k1,k2,tupV]
def jobR (vs:List HVn) (hs:List HHd) (M:Nat) (j:HJb):Bool:=jobB vs.length hs.length M j && (match hs[j.ha.toNat]?,vs[j.vi.toNat]? with
 | some h,some x=>canH h x j.ho j.vi && inH 1 j.ma 1000
 | _,_=>false)
def S66:PSpec where
 R args w v:=∃ (vv hv fv:Value) (vs:List HVn) (hs:List HHd) (fs:List (List (Int × Int))) (j:HJb),args=[.agg ⟨[vv,hv,fv]⟩,.agg ⟨jbC j⟩]∧SeaV w vv hv fv vs hs fs∧vs.length≤6∧hs.length≤6∧fs.length≤6∧v=.bool (jobR vs hs fs.length j)
 uniq:=by
  rintro _ _ _ _ ⟨a,b,c,vs,hs,fs,j,rfl,h1,_,_,_,rfl⟩ ⟨a',b',c',vs',hs',fs',j',e,k1,_,_,_,rfl⟩
  simp only [List.cons.injEq,and_true,Value.agg.injEq,Array.mk.injEq,true_and] at e
  obtain ⟨⟨rfl,rfl,rfl⟩,e1⟩:=e
  obtain ⟨rfl,rfl,rfl⟩:=h1.uniq k1
  rw [jbC_inj _ _ e1]
 shut:=by rintro _ _ _ ⟨a,b,c,vs,hs,fs,j,e,h1,h2⟩; exact ⟨a,b,c,vs,hs,fs,j,e,⟨h1.v,h1.h,h1.f⟩,h2⟩
theorem run66 {ov:Ov} (ho':∀ args w,ov 66 args w=none) (h38:HasP ov 38 S38.F) (h45:HasP ov 45 S45.F) (vv hv fv:Value) (vs:List HVn) (hs:List HHd) (fs:List (List (Int × Int))) (j:HJb) (w:AW) (hl:w.lim=w.next) (hS:SeaV w vv hv fv vs hs fs) (b1:vs.length≤6) (b2:hs.length≤6) (b3:fs.length≤6):∃ v w',(run Try.prog ov 2).call 66 [.agg ⟨[vv,hv,fv]⟩,.agg ⟨jbC j⟩] w .none=.ok (.ret v) w' .none∧v=.bool (jobR vs hs fs.length j):=by
 refine call_wp text66 (by simp) (ho' _ _) ?_
 obtain ⟨nv,nh,nf⟩:=hS.nj
 have hl1:=fun w2=>len22V (w':=w2) hS.v
 have hl2:=fun w2=>len23V (w':=w2) hS.h
 have hl3:=fun w2=>len24V (w':=w2) hS.f
 have r38:=fun n a b w=>S38.call1 (P:=Try.prog) h38 (w:=w) ⟨n,a,b,rfl,rfl⟩
 have e1:IntKind.wrap .i64 ((vs.length:Int) - 1)=(vs.length:Int) - 1:=wrap64_in (by omega) (by omega)
 have e2:IntKind.wrap .i64 ((hs.length:Int) - 1)=(hs.length:Int) - 1:=wrap64_in (by omega) (by omega)
 have e3:IntKind.wrap .i64 ((fs.length:Int) - 1)=(fs.length:Int) - 1:=wrap64_in (by omega) (by omega)
 obtain ⟨w1,hw1⟩:∃ w1:AW,w1=⟨(w.heap.put w.next (some (.cells [vv,hv,fv] 26 false))).put (w.next + 1) (some (.cells (jbC j) 67 false)),w.next + 1 + 1,w.lim⟩:=⟨_,rfl⟩
 have u1:Up w w1:=by rw [hw1]; exact ((Up.refl w).add _).put (Nat.le_succ _) (Nat.le_succ _)
 have hS1:=hS.up u1
 unfold jobR
 rw [jobB_eq]
 obtain ⟨mo,hr,ha,vi,ma⟩:=j
 simp only [jbC] at hw1 ⊢
 cases k1:inH 0 mo ((fs.length:Int) - 1) with
 | false=>simp [mc66,cellsOf_agg,nv,nh,nf,hl1,hl2,hl3,e1,e2,e3,r38,k1,tupV]
 | true =>
  cases k2:inH 0 ha ((hs.length:Int) - 1) with
  | false=>simp [mc66,cellsOf_agg,nv,nh,nf,hl1,hl2,hl3,e1,e2,e3,r38,k1,k2,tupV]
  | true =>
   cases k3:inH 0 vi ((vs.length:Int) - 1) with
   | false=>simp [mc66,cellsOf_agg,nv,nh,nf,hl1,hl2,hl3,e1,e2,e3,r38,k1,k2,k3,tupV]
   | true =>
    have q2:=k2
    have q3:=k3
    rw [inH0,decide_eq_true_eq] at q2 q3
    obtain ⟨h,hh⟩:=lt_get (show ha.toNat < hs.length by omega)
    obtain ⟨x,hx⟩:=lt_get (show vi.toNat < vs.length by omega)
    have r45:=S45.call1 (P:=Try.prog) h45 (w:=w1) ⟨vv,hv,fv,vs,hs,fs,h,x,ha.toNat,vi.toNat,hr,rfl,hS1,hh,hx,rfl⟩
    rw [show ((ha.toNat:Nat):Int)=ha by omega,show ((vi.toNat:Nat):Int)=vi by omega,hw1] at r45
    cases k4:canH h x hr vi with
    | false=>simp [mc66,cellsOf_agg,nv,nh,nf,hl1,hl2,hl3,e1,e2,e3,r38,k1,k2,k3,r45,hh,hx,k4,tupV]
    | true=>simp [mc66,cellsOf_agg,nv,nh,nf,hl1,hl2,hl3,e1,e2,e3,r38,k1,k2,k3,r45,hh,hx,k4,tupV]
def S81:PSpec where
 R args w v:=∃ (n:Int) (x:Value) (L:List Int),args=[.int .i64 n,x]∧RowsV intC w x L∧L.length≤10∧v=.int .i64 (L.foldl min n)
 uniq:=by
  rintro _ _ _ _ ⟨n,x,L,rfl,h1,_,rfl⟩ ⟨_,_,L',h,h2,_,rfl⟩
  cases h
  rw [h1.uniq (m:=1) intC_length intC_inj h2]
 shut h:=h
theorem run81 {ov:Ov} (ho:∀ args w,ov 81 args w=none) (n:Int) (x:Value) (L:List Int) (hL:L.length≤10) (w:AW) (hx:RowsV intC w x L):∃ v w',(run Try.prog ov 2).call 81 [.int .i64 n,x] w .none=.ok (.ret v) w' .none∧v=.int .i64 (L.foldl min n):=by
 refine call_wp text81 (by simp) (ho _ _) ?_
 have hl1:=fun w2=>len42V (w':=w2) hx
 simp [mc81,hl1]
 refine wp_seqX (wp_blockX (wp_rounds (fun i t w'=>w'=w∧tget t 0=.int .i64 ((L.take i).foldl min n)∧tget t 7=x∧tget t 8=.int .i64 (L.length:Nat)∧tget t 9=.int .i64 (i:Nat)∧i≤L.length) 20 (by decide) ⟨rfl,by simp,by simp,by simp,by simp,Nat.zero_le _⟩ ?_))
 rintro i t w' ⟨rfl,t0,t7,t8,t9,hi⟩
 by_cases hlt:i < L.length
 ·obtain ⟨z,hz⟩:=lt_get hlt
  obtain ⟨p,ia,_,ld,_⟩:=getR un42 sz3 intC_length hx rfl hz
  have ld:=ld 0 _ rfl
  simp only [Nat.add_zero] at ld
  have hw1:IntKind.wrap .i64 ((i:Int) + 1)=(i:Int) + 1:=wrap64_in (by omega) (by omega)
  have e:(L.take (i + 1)).foldl min n=min ((L.take i).foldl min n) z:=by
   rw [List.take_add_one,hz,List.foldl_append]; rfl
  simp [mc81_l0,t0,t7,t8,t9,hlt,ia,ld,hw1]
  exact ⟨by omega,e.symm,hlt⟩
 ·have hi':i=L.length:=by omega
  subst hi'
  rw [List.take_length] at t0
  simp [mc81_l0,t0,t8,t9,tupV]
theorem call93 {ov:Ov} (m:Nat) (ho:∀ args w,ov 93 args w=none) (j:HJb) (w:AW) (hl:w.lim≤w.next):∃ v w',(run Try.prog ov (m + 1)).call 93 [.agg ⟨jbC j⟩] w .none=.ok (.ret v) w' .none∧RowsV intC w' v [j.mo,j.ho,j.ha,j.vi]∧notJunk v=some v∧Up w w':=by
 refine call_wp text93 (by simp) (ho _ _) ?_
 obtain ⟨mo,hr,ha,vi,ma⟩:=j
 simp only [jbC]
 have u1:Up w ⟨(w.heap.put w.next (some (.cells (jbC ⟨mo,hr,ha,vi,ma⟩) 67 false))).put (w.next + 1) (some (.cells [.int .i64 mo,.int .i64 hr,.int .i64 ha,.int .i64 vi] 3 false)),w.next + 1 + 1,w.lim⟩:=((Up.refl w).add _).put (Nat.le_succ _) (Nat.le_succ _)
 simp [mc93,cellsOf_agg,tupV]
 refine ⟨.inr ⟨w.next + 1,0,some 2,4,rfl,⟨[],[],3,false,?_,rfl⟩,?_⟩,u1⟩
 ·show T.get (T.put _ _ _) _=_
  rw [get_put,if_pos rfl]; rfl
 ·show w.next + 1 < w.next + 1 + 1; omega
def lexH:List Int→List Int→Int
 | a::l,b::m=>if cmpH a b=0 then lexH l m else cmpH a b
 | _,_=>0
theorem cmpH_zero {a b:Int}:cmpH a b=0 ↔ a=b:=by
 unfold cmpH
 constructor
 ·intro h; split at h
  ·omega
  ·split at h <;> omega
 ·rintro rfl; rw [if_neg (by omega),if_neg (by omega)]
theorem lex_drop {L M:List Int} {i:Nat} {a b:Int} (h1:L[i]?=some a) (h2:M[i]?=some b):lexH (L.drop i) (M.drop i)=if cmpH a b=0 then lexH (L.drop (i + 1)) (M.drop (i + 1)) else cmpH a b:=by
 obtain ⟨k1,e1⟩:=List.getElem?_eq_some_iff.1 h1
 obtain ⟨k2,e2⟩:=List.getElem?_eq_some_iff.1 h2
 rw [List.drop_eq_getElem_cons k1,List.drop_eq_getElem_cons k2,e1,e2]
 rfl
theorem lex_cons (a b:Int) (l m:List Int):decide (lexH (a::l) (b::m) < 0)=(decide (a < b) || (decide (a=b) && decide (lexH l m < 0))):=by
 show decide ((if cmpH a b=0 then lexH l m else cmpH a b) < 0)=_
 by_cases h:a=b
 ·subst h; rw [if_pos (cmpH_zero.2 rfl)]; simp
 ·rw [if_neg (fun k=>h (cmpH_zero.1 k))]
  unfold cmpH
  by_cases h1:a < b
  ·rw [if_pos h1]; simp [h1]
  ·rw [if_neg h1,if_pos (by omega)]; simp [h1,h]
theorem lex_ltJ (a b:HJb):ltJ a b=decide (lexH [a.mo,a.ho,a.ha,a.vi] [b.mo,b.ho,b.ha,b.vi] < 0):=by
 rw [lex_cons,lex_cons,lex_cons,lex_cons]
 simp [ltJ,lexH]
def S92:PSpec where
 R args w v:=∃ (x y:Value) (L M:List Int),args=[x,y]∧RowsV intC w x L∧RowsV intC w y M∧L.length=M.length∧L.length≤10∧v=.int .i64 (lexH L M)
 uniq:=by
  rintro _ _ _ _ ⟨x,y,L,M,rfl,h1,h2,_,_,rfl⟩ ⟨_,_,L',M',h,k1,k2,_,_,rfl⟩
  cases h
  rw [h1.uniq (m:=1) intC_length intC_inj k1,h2.uniq (m:=1) intC_length intC_inj k2]
 shut h:=h
theorem run92 {ov:Ov} (ho:∀ args w,ov 92 args w=none) (h102:HasP ov 102 S102.F) (x y:Value) (L M:List Int) (hLM:L.length=M.length) (hL:L.length≤10) (w:AW) (hx:RowsV intC w x L) (hy:RowsV intC w y M):∃ v w',(run Try.prog ov 2).call 92 [x,y] w .none=.ok (.ret v) w' .none∧v=.int .i64 (lexH L M):=by
 refine call_wp text92 (by simp) (ho _ _) ?_
 have hl1:=fun w2=>len42V (w':=w2) hx
 have hl2:=fun w2=>len42V (w':=w2) hy
 have r102:=fun a b w=>S102.call1 (P:=Try.prog) h102 (w:=w) ⟨a,b,rfl,rfl⟩
 simp [mc92,hl1]
 refine wp_seqX (wp_blockX (wp_rounds (fun i t w'=>w'=w∧tget t 0=x∧tget t 1=y∧tget t 9=x∧tget t 10=.int .i64 (L.length:Nat)∧tget t 11=.int .i64 (i:Nat)∧i≤L.length∧lexH (L.drop i) (M.drop i)=lexH L M) 20 (by decide) ⟨rfl,by simp,by simp,by simp,by simp,by simp,Nat.zero_le _,by simp⟩ ?_))
 rintro i t w' ⟨rfl,t0,t1,t9,t10,t11,hi,he⟩
 by_cases hlt:i < L.length
 ·obtain ⟨z,hz⟩:=lt_get hlt
  obtain ⟨u,hu⟩:=lt_get (show i < M.length by omega)
  obtain ⟨p,ia,_,ld,_⟩:=getR un42 sz3 intC_length hx rfl hz
  obtain ⟨q,ib,_,le,_⟩:=getR un42 sz3 intC_length hy rfl hu
  have ld:=ld 0 _ rfl
  have le:=le 0 _ rfl
  simp only [Nat.add_zero] at ld le
  rw [lex_drop hz hu] at he
  have hw1:IntKind.wrap .i64 ((i:Int) + 1)=(i:Int) + 1:=wrap64_in (by omega) (by omega)
  have hlt2:i < M.length:=by omega
  have hge:¬ (M.length:Int)≤(i:Int):=by omega
  have hge':¬ M.length≤i:=by omega
  by_cases k:cmpH z u=0
  ·rw [if_pos k] at he
   simp [mc92_l0,t0,t1,t9,t10,t11,hlt,hl2,hge,hge',ia,ld,ib,le,r102,k,hw1]
   exact ⟨by omega,hlt,he⟩
  ·rw [if_neg k] at he
   rw [← he]
   simp [mc92_l0,t0,t1,t9,t10,t11,hlt,hl2,hge,hge',ia,ld,ib,le,r102,k,hw1,tupV]
 ·have hi':i=L.length:=by omega
  have e0:lexH L M=0:=by
   rw [← he,List.drop_eq_nil_of_le (by omega),List.drop_eq_nil_of_le (by omega)]; rfl
  have hn:¬ (L.length:Int) < (M.length:Int):=by omega
  have hn':¬ L.length < M.length:=by omega
  simp [mc92_l0,t0,t1,t10,t11,hi',hl1,hl2,hn,hn',e0,tupV]
def S95:PSpec where
 R args w v:=∃ (x y:Value) (L M:List Int),args=[x,y]∧RowsV intC w x L∧RowsV intC w y M∧L.length=M.length∧L.length≤10∧v=.bool (decide (lexH L M < 0))
 uniq:=by
  rintro _ _ _ _ ⟨x,y,L,M,rfl,h1,h2,_,_,rfl⟩ ⟨_,_,L',M',h,k1,k2,_,_,rfl⟩
  cases h
  rw [h1.uniq (m:=1) intC_length intC_inj k1,h2.uniq (m:=1) intC_length intC_inj k2]
 shut h:=h
theorem run95 {ov:Ov} (ho:∀ args w,ov 95 args w=none) (x y:Value) (L M:List Int) (hLM:L.length=M.length) (hL:L.length≤10) (w:AW) (hx:RowsV intC w x L) (hy:RowsV intC w y M):∃ v w',(run Try.prog ov 2).call 95 [x,y] w .none=.ok (.ret v) w' .none∧v=.bool (decide (lexH L M < 0)):=by
 refine call_wp text95 (by simp) (ho _ _) ?_
 have hl1:=fun w2=>len42V (w':=w2) hx
 have hl2:=fun w2=>len42V (w':=w2) hy
 have sx:=same_rows hx
 have sy:=same_rows hy
 have hmin:min (L.length:Int) (M.length:Int)=(L.length:Int):=by omega
 have hmin':min L.length M.length=L.length:=by omega
 simp [mc95]
 refine wp_seqX (wp_blockX (wp_rounds (fun i t w'=>w'=w∧tget t 0=x∧tget t 1=y∧tget t 5=.int .i64 (i:Nat)∧i≤L.length∧lexH (L.drop i) (M.drop i)=lexH L M) 20 (by decide) ⟨rfl,by simp,by simp,by simp,Nat.zero_le _,by simp⟩ ?_))
 rintro i t w' ⟨rfl,t0,t1,t5,hi,he⟩
 by_cases hlt:i < L.length
 ·obtain ⟨z,hz⟩:=lt_get hlt
  obtain ⟨u,hu⟩:=lt_get (show i < M.length by omega)
  obtain ⟨p,ia,_,ld,_⟩:=getR un42 sz3 intC_length hx rfl hz
  obtain ⟨q,ib,_,le,_⟩:=getR un42 sz3 intC_length hy rfl hu
  have ld:=ld 0 _ rfl
  have le:=le 0 _ rfl
  simp only [Nat.add_zero] at ld le
  rw [lex_drop hz hu] at he
  have hw1:IntKind.wrap .i64 ((i:Int) + 1)=(i:Int) + 1:=wrap64_in (by omega) (by omega)
  have hlt':(i:Int) < (L.length:Int):=by omega
  have hltm:i < M.length:=by omega
  by_cases k:z=u
  ·subst k
   rw [if_pos (cmpH_zero.2 rfl)] at he
   simp [mc95_l0,t0,t1,t5,hlt,hlt',hltm,hl1,hl2,hmin,hmin',sx,sy,ia,ld,ib,le,hw1]
   exact ⟨by omega,hlt,he⟩
  ·rw [if_neg (fun h=>k (cmpH_zero.1 h))] at he
   have e2:decide (lexH L M < 0)=decide (z < u):=by
    rw [← he]
    apply decide_eq_decide.2
    unfold cmpH
    by_cases a:z < u
    ·rw [if_pos a]; omega
    ·rw [if_neg a,if_pos (by omega)]; omega
   simp [mc95_l0,t0,t1,t5,hlt,hlt',hltm,hl1,hl2,hmin,hmin',sx,sy,ia,ld,ib,le,k,tupV]
   simpa using e2.symm
 ·have hi':i=L.length:=by omega
  have e0:lexH L M=0:=by
   rw [← he,List.drop_eq_nil_of_le (by omega),List.drop_eq_nil_of_le (by omega)]; rfl
  have hn:¬ (L.length:Int) < (M.length:Int):=by omega
  have hn':¬ L.length < M.length:=by omega
  simp [mc95_l0,t0,t1,t5,hi',hl1,hl2,hmin,hmin',hn,hn',e0,tupV]
def S67:PSpec where
 R args _ v:=∃ a b:HJb,args=[.agg ⟨jbC a⟩,.agg ⟨jbC b⟩]∧v=.bool (ltJ a b)
 uniq:=by
  rintro _ _ _ _ ⟨a,b,rfl,rfl⟩ ⟨a',b',h,rfl⟩
  simp only [List.cons.injEq,and_true,Value.agg.injEq,Array.mk.injEq] at h
  rw [jbC_inj _ _ h.1,jbC_inj _ _ h.2]
 shut h:=h
theorem run67 {ov:Ov} (ho:∀ args w,ov 67 args w=none) (h95:HasP ov 95 S95.F) (a b:HJb) (w:AW) (hl:w.lim=w.next):∃ v w',(run Try.prog ov 2).call 67 [.agg ⟨jbC a⟩,.agg ⟨jbC b⟩] w .none=.ok (.ret v) w' .none∧v=.bool (ltJ a b):=by
 refine call_wp text67 (by simp) (ho _ _) ?_
 rw [lex_ltJ]
 obtain ⟨a1,a2,a3,a4,a5⟩:=a
 obtain ⟨b1,b2,b3,b4,b5⟩:=b
 obtain ⟨w1,hw1⟩:∃ w1:AW,w1=⟨(((w.heap.put w.next (some (.cells [.int .i64 a1,.int .i64 a2,.int .i64 a3,.int .i64 a4,.int .i64 a5] 67 false))).put (w.next + 1) (some (.cells [.int .i64 b1,.int .i64 b2,.int .i64 b3,.int .i64 b4,.int .i64 b5] 67 false))).put (w.next + 1 + 1) (some (.cells [.int .i64 a1,.int .i64 a2,.int .i64 a3,.int .i64 a4] 3 false))).put (w.next + 1 + 1 + 1) (some (.cells [.int .i64 b1,.int .i64 b2,.int .i64 b3,.int .i64 b4] 3 false)),w.next + 1 + 1 + 1 + 1,w.lim⟩:=⟨_,rfl⟩
 have g1:w1.heap.get (w.next + 1 + 1)=some (.cells [.int .i64 a1,.int .i64 a2,.int .i64 a3,.int .i64 a4] 3 false):=by
  rw [hw1]; simp
 have g2:w1.heap.get (w.next + 1 + 1 + 1)=some (.cells [.int .i64 b1,.int .i64 b2,.int .i64 b3,.int .i64 b4] 3 false):=by
  rw [hw1]; simp
 have n1:w1.next=w.next + 1 + 1 + 1 + 1:=by rw [hw1]
 have r95:=S95.call1 (P:=Try.prog) h95 (w:=w1) ⟨.slice (some ⟨w.next + 1 + 1,0,some 2⟩) 4 4,.slice (some ⟨w.next + 1 + 1 + 1,0,some 2⟩) 4 4,[a1,a2,a3,a4],[b1,b2,b3,b4],rfl,
  .inr ⟨w.next + 1 + 1,0,some 2,4,rfl,⟨[],[],3,false,by rw [g1]; rfl,rfl⟩,by omega⟩,
  .inr ⟨w.next + 1 + 1 + 1,0,some 2,4,rfl,⟨[],[],3,false,by rw [g2]; rfl,rfl⟩,by omega⟩,rfl,by simp,rfl⟩
 rw [hw1] at r95
 simp only [jbC]
 simp [mc67,cellsOf_agg,r95,tupV]
abbrev Sf:Type:=Int × Int × Int
def shC (k:Sf):Value:=.agg ⟨[.int .i64 k.1,.int .i64 k.2.1,.int .i64 k.2.2]⟩
def inV (z:Int):Value:=.int .i64 z
theorem sh_ok:KeyOk (true,[0,0,0]) shC:=by
 refine ⟨fun a=>rfl,fun a b=>?_⟩
 obtain ⟨a1,a2,a3⟩:=a
 obtain ⟨b1,b2,b3⟩:=b
 by_cases h1:a1=b1 <;> by_cases h2:a2=b2 <;> by_cases h3:a3=b3 <;> simp [shC,eqFlat,flatCells,sameL,same1,sameInt,sameK_refl,intEq_eq,h1,h2,h3]
theorem map149:mapOf Try.prog 149=some (3,(true,[0,0,0])):=by kernel_rfl
theorem zero3:zeroA Try.prog 3=some (.int .i64 0):=by kernel_rfl
noncomputable def mc99_r2:MC:=.seq (.seq (.ops [⟨true,none,some 43,149,.move (.tmp 0)⟩]) (.seq (.ops [⟨true,none,some 44,157,.load 157 (.tmp 6)⟩]) (.seq (.ops [⟨true,none,some 45,3,.lookup 149 (.tmp 43) (.tmp 44) false⟩]) (.seq (.ops [⟨true,none,some 46,0,.fieldAddr 67 (.tmp 3) 4⟩]) (.seq (.ops [⟨true,none,some 47,3,.load 3 (.tmp 46)⟩]) (.seq (.ops [⟨true,none,some 48,3,.binOp .sub 3 (.tmp 45) (.tmp 47) 3⟩]) (.seq (.ops [⟨false,none,some 49,0,.mapEntry 149 (.tmp 43) (.tmp 44)⟩]) (.seq (.ops [⟨true,none,some 50,3,.extract (.tmp 49) 1⟩]) (.seq (.chk [⟨true,none,some 45,3,.lookup 149 (.tmp 43) (.tmp 44) false⟩]) (.seq (.ops [⟨false,none,none,0,.entryStore 149 (.tmp 43) (.tmp 50) (.tmp 48)⟩]) (.chk []))))))))))) (.seq (.ops [⟨false,none,some 4,4,.assign (.const (.bool true))⟩]) (.ret))
noncomputable def mc99_r1:MC:=.seq (.seq (.ops [⟨true,none,some 35,149,.move (.tmp 0)⟩]) (.seq (.ops [⟨true,none,some 36,157,.load 157 (.tmp 5)⟩]) (.seq (.ops [⟨true,none,some 37,3,.lookup 149 (.tmp 35) (.tmp 36) false⟩]) (.seq (.ops [⟨true,none,some 38,0,.fieldAddr 67 (.tmp 3) 4⟩]) (.seq (.ops [⟨true,none,some 39,3,.load 3 (.tmp 38)⟩]) (.seq (.ops [⟨true,none,some 40,3,.binOp .sub 3 (.tmp 37) (.tmp 39) 3⟩]) (.seq (.ops [⟨false,none,some 41,0,.mapEntry 149 (.tmp 35) (.tmp 36)⟩]) (.seq (.ops [⟨true,none,some 42,3,.extract (.tmp 41) 1⟩]) (.seq (.chk [⟨true,none,some 37,3,.lookup 149 (.tmp 35) (.tmp 36) false⟩]) (.seq (.ops [⟨false,none,none,0,.entryStore 149 (.tmp 35) (.tmp 42) (.tmp 40)⟩]) (.chk []))))))))))) mc99_r2
theorem mc99_eq:mc99=.seq (.ops [⟨false,none,some 3,0,.box 67 (.tmp 1)⟩,⟨false,none,some 4,4,.assign (.const (.bool false))⟩]) (.seq (.seq (.ops [⟨true,none,some 7,0,.fieldAddr 67 (.tmp 3) 0⟩]) (.seq (.ops [⟨true,none,some 8,3,.load 3 (.tmp 7)⟩]) (.seq (.ops [⟨true,none,some 9,0,.fieldAddr 67 (.tmp 3) 2⟩]) (.seq (.ops [⟨true,none,some 10,3,.load 3 (.tmp 9)⟩]) (.seq (.ops [⟨true,none,some 11,157,.build 157 #[(0,.tmp 8),(1,.tmp 10),(2,.const (.int .i64 (-1)))]⟩]) (.seq (.ops [⟨true,none,some 12,0,.fieldAddr 67 (.tmp 3) 0⟩]) (.seq (.ops [⟨true,none,some 13,3,.load 3 (.tmp 12)⟩]) (.seq (.ops [⟨true,none,some 14,0,.fieldAddr 67 (.tmp 3) 2⟩]) (.seq (.ops [⟨true,none,some 15,3,.load 3 (.tmp 14)⟩]) (.seq (.ops [⟨true,none,some 16,0,.fieldAddr 67 (.tmp 3) 1⟩]) (.seq (.ops [⟨true,none,some 17,3,.load 3 (.tmp 16)⟩]) (.seq (.ops [⟨true,none,some 18,157,.build 157 #[(0,.tmp 13),(1,.tmp 15),(2,.tmp 17)]⟩]) (.seq (.ops [⟨true,none,some 5,0,.alloc 157⟩]) (.seq (.ops [⟨true,none,some 6,0,.alloc 157⟩]) (.seq (.chk [⟨true,none,some 17,3,.load 3 (.tmp 16)⟩,⟨true,none,some 15,3,.load 3 (.tmp 14)⟩,⟨true,none,some 13,3,.load 3 (.tmp 12)⟩,⟨true,none,some 10,3,.load 3 (.tmp 9)⟩,⟨true,none,some 8,3,.load 3 (.tmp 7)⟩]) (.seq (.ops [⟨false,none,none,0,.store 157 (.tmp 5) (.tmp 11)⟩]) (.seq (.chk [⟨true,none,some 17,3,.load 3 (.tmp 16)⟩,⟨true,none,some 15,3,.load 3 (.tmp 14)⟩,⟨true,none,some 13,3,.load 3 (.tmp 12)⟩]) (.seq (.ops [⟨false,none,none,0,.store 157 (.tmp 6) (.tmp 18)⟩]) (.chk []))))))))))))))))))) (.seq (.seq (.seq (.ops [⟨true,none,some 19,0,.fieldAddr 67 (.tmp 3) 4⟩]) (.seq (.ops [⟨true,none,some 20,3,.load 3 (.tmp 19)⟩]) (.seq (.ops [⟨true,none,some 21,4,.binOp .lss 3 (.tmp 20) (.const (.int .i64 1)) 3⟩]) (.seq (.ops [⟨true,none,some 22,4,.move (.tmp 21)⟩]) (.seq (.ops [⟨true,some (22,false),some 23,0,.fieldAddr 67 (.tmp 3) 4⟩]) (.seq (.ops [⟨true,some (22,false),some 24,3,.load 3 (.tmp 23)⟩]) (.seq (.ops [⟨true,some (22,false),some 25,149,.move (.tmp 0)⟩]) (.seq (.ops [⟨true,some (22,false),some 26,157,.load 157 (.tmp 5)⟩]) (.seq (.ops [⟨true,some (22,false),some 27,3,.lookup 149 (.tmp 25) (.tmp 26) false⟩]) (.seq (.ops [⟨true,some (22,false),some 28,149,.move (.tmp 0)⟩]) (.seq (.ops [⟨true,some (22,false),some 29,157,.load 157 (.tmp 6)⟩]) (.seq (.ops [⟨true,some (22,false),some 30,3,.lookup 149 (.tmp 28) (.tmp 29) false⟩]) (.seq (.ops [⟨true,some (22,false),some 31,42,.buildSlice 42 1 #[(0,.tmp 30)]⟩]) (.seq (.chk [⟨true,some (22,false),some 30,3,.lookup 149 (.tmp 28) (.tmp 29) false⟩,⟨true,some (22,false),some 29,157,.load 157 (.tmp 6)⟩,⟨true,some (22,false),some 27,3,.lookup 149 (.tmp 25) (.tmp 26) false⟩,⟨true,some (22,false),some 26,157,.load 157 (.tmp 5)⟩,⟨true,some (22,false),some 24,3,.load 3 (.tmp 23)⟩,⟨true,none,some 20,3,.load 3 (.tmp 19)⟩]) (.seq (.ops [⟨false,some (22,false),some 32,3,.call ⟨.value (.func 81),#[.tmp 27,.tmp 31],#[3,42]⟩⟩]) (.seq (.ops [⟨true,some (22,false),some 33,4,.binOp .gtr 3 (.tmp 24) (.tmp 32) 3⟩]) (.seq (.ops [⟨true,none,some 34,4,.pick (.tmp 22) (.const (.bool true)) (.tmp 33)⟩]) (.chk [⟨true,some (22,false),some 24,3,.load 3 (.tmp 23)⟩])))))))))))))))))) (.cond (.tmp 34) (.seq (.ops [⟨false,none,some 4,4,.assign (.const (.bool false))⟩]) (.ret)) (.skip))) mc99_r1)):=rfl
section
variable {ov:Ov} {km B3 B5 B6:Nat} {j:HJb}
structure Mk (km:Nat) (w w':AW):Prop where
 keep:∀ b,b ≠ km→w'.heap.get b=w.heap.get b
 next:w'.next=w.next
 lim:w'.lim=w.lim
theorem updK_same {α β:Type} [DecidableEq α] {k:α} {v:β}:∀ {L:List (α × β)},lookK L k=some v→updK L k v=L
 | [],h=>by simp at h
 | p::L,h=>by
  rw [lookK_cons] at h
  unfold updK
  by_cases e:k=p.1
  ·rw [if_pos e] at h ⊢
   cases h; rfl
  ·rw [if_neg e] at h ⊢
   rw [updK_same h]
theorem part99b (M:Nat) {L:List (Sf × Int)} (t:Tm) (w:AW) (hm:MapAt shC inV w km L) (hl:w.lim≤km) (t0:tget t 0=.map (some km)) (t3:tget t 3=.pointer (some ⟨B3,0,none⟩)) (t6:tget t 6=.pointer (some ⟨B6,0,none⟩)) (g3:w.heap.get B3=some (.cells (jbC j) 67 false)) (g6:w.heap.get B6=some (.cells [.int .i64 j.mo,.int .i64 j.ha,.int .i64 j.ho] 157 false)) (n3:¬ B3=km) (n6:¬ B6=km) {x:Int} (hk:lookK L (j.mo,j.ha,j.ho)=some x) (hx:IntKind.wrap .i64 (x - j.ma)=x - j.ma) (Q:Ex→Tm→AW→Prop)
  (hQ:∀ t w',tget t 4=.bool true→Mk km w w'→MapAt shC inV w' km (updK L (j.mo,j.ha,j.ho) (x - j.ma))→Q .ret t w'):wp (exM Try.prog (run Try.prog ov M) mc99_r2 t w) Q:=by
 have hlk:=lookup_k (P:=Try.prog) (s:=149) map149 sh_ok zero3 hm (j.mo,j.ha,j.ho) false
 rw [hk] at hlk
 have he:=entry_k (P:=Try.prog) (s:=149) (z:=(0:Int)) map149 sh_ok zero3 hm hl (j.mo,j.ha,j.ho)
 rw [hk,Option.getD_some,updK_same hk] at he
 have hm2:MapAt shC inV ⟨w.heap.put km (some (.map (entsK shC inV 0 L) L.length)),w.next,w.lim⟩ km L:=by
  unfold MapAt
  show (w.heap.put km _).get km=_
  rw [get_put,if_pos rfl]
 have hlk2:=lookup_k (P:=Try.prog) (s:=149) map149 sh_ok zero3 hm2 (j.mo,j.ha,j.ho) false
 rw [hk] at hlk2
 have hst:=store_k hm2 hl (j.mo,j.ha,j.ho) (x - j.ma) (by rw [hk]; rfl)
 obtain ⟨mo,ho,ha,vi,ma⟩:=j
 simp only [jbC] at g3
 have hlk:lookupA Try.prog w 149 (.map (some km)) (.agg ⟨[.int .i64 mo,.int .i64 ha,.int .i64 ho]⟩) false=.val (.int .i64 x) w:=hlk
 have he:mapEntryA Try.prog w 149 (.map (some km)) (.agg ⟨[.int .i64 mo,.int .i64 ha,.int .i64 ho]⟩)=.val (.tuple ⟨[.int .i64 x,.int .i64 (posN L (mo,ha,ho):Nat)]⟩) ⟨w.heap.put km (some (.map (entsK shC inV 0 L) L.length)),w.next,w.lim⟩:=he
 have hlk2:lookupA Try.prog ⟨w.heap.put km (some (.map (entsK shC inV 0 L) L.length)),w.next,w.lim⟩ 149 (.map (some km)) (.agg ⟨[.int .i64 mo,.int .i64 ha,.int .i64 ho]⟩) false=.val (.int .i64 x) ⟨w.heap.put km (some (.map (entsK shC inV 0 L) L.length)),w.next,w.lim⟩:=hlk2
 have hst:entryStoreA ⟨w.heap.put km (some (.map (entsK shC inV 0 L) L.length)),w.next,w.lim⟩ (.map (some km)) (.int .i64 (posN L (mo,ha,ho):Nat)) (.int .i64 (x - ma))=.val undef ⟨(w.heap.put km (some (.map (entsK shC inV 0 L) L.length))).put km (some (.map (entsK shC inV 0 (updK L (mo,ha,ho) (x - ma))) (updK L (mo,ha,ho) (x - ma)).length)),w.next,w.lim⟩:=hst
 simp only at g6 hx
 simp [mc99_r2,t0,t3,t6,g3,g6,n3,n6,hlk,hx,he,hlk2,hst]
 refine hQ _ _ (by simp) ⟨fun b hb=>?_,rfl,rfl⟩ ?_
 ·simp [hb]
 ·unfold MapAt
  simp
theorem part99a (M:Nat) {L:List (Sf × Int)} (t:Tm) (w:AW) (hm:MapAt shC inV w km L) (hl:w.lim≤km) (t0:tget t 0=.map (some km)) (t3:tget t 3=.pointer (some ⟨B3,0,none⟩)) (t5:tget t 5=.pointer (some ⟨B5,0,none⟩)) (t6:tget t 6=.pointer (some ⟨B6,0,none⟩)) (g3:w.heap.get B3=some (.cells (jbC j) 67 false)) (g5:w.heap.get B5=some (.cells [.int .i64 j.mo,.int .i64 j.ha,.int .i64 (-1)] 157 false)) (g6:w.heap.get B6=some (.cells [.int .i64 j.mo,.int .i64 j.ha,.int .i64 j.ho] 157 false)) (n3:¬ B3=km) (n5:¬ B5=km) (n6:¬ B6=km) {x y:Int} (hk:lookK L (j.mo,j.ha, -1)=some x) (hx:IntKind.wrap .i64 (x - j.ma)=x - j.ma) (hk2:lookK L (j.mo,j.ha,j.ho)=some y) (hy:IntKind.wrap .i64 (y - j.ma)=y - j.ma) (h1:j.ho ≠ -1) (Q:Ex→Tm→AW→Prop)
  (hQ:∀ t w',tget t 4=.bool true→Mk km w w'→MapAt shC inV w' km (updK (updK L (j.mo,j.ha, -1) (x - j.ma)) (j.mo,j.ha,j.ho) (y - j.ma))→Q .ret t w'):wp (exM Try.prog (run Try.prog ov M) mc99_r1 t w) Q:=by
 have hlk:=lookup_k (P:=Try.prog) (s:=149) map149 sh_ok zero3 hm (j.mo,j.ha, -1) false
 rw [hk] at hlk
 have he:=entry_k (P:=Try.prog) (s:=149) (z:=(0:Int)) map149 sh_ok zero3 hm hl (j.mo,j.ha, -1)
 rw [hk,Option.getD_some,updK_same hk] at he
 have hm2:MapAt shC inV ⟨w.heap.put km (some (.map (entsK shC inV 0 L) L.length)),w.next,w.lim⟩ km L:=by
  unfold MapAt
  show (w.heap.put km _).get km=_
  rw [get_put,if_pos rfl]
 have hlk2:=lookup_k (P:=Try.prog) (s:=149) map149 sh_ok zero3 hm2 (j.mo,j.ha, -1) false
 rw [hk] at hlk2
 have hst:=store_k hm2 hl (j.mo,j.ha, -1) (x - j.ma) (by rw [hk]; rfl)
 have key:=fun t' w'=>part99b (ov:=ov) (km:=km) (B3:=B3) (B6:=B6) (j:=j) (L:=updK L (j.mo,j.ha, -1) (x - j.ma)) M t' w'
 have hne:¬ ((j.mo,j.ha,j.ho):Sf)=(j.mo,j.ha, -1):=fun e=>h1 (by injection e with _ e; injection e)
 have hl2:lookK (updK L (j.mo,j.ha, -1) (x - j.ma)) (j.mo,j.ha,j.ho)=some y:=by rw [lookK_upd,if_neg hne,hk2]
 have g3':=g3
 obtain ⟨mo,ho,ha,vi,ma⟩:=j
 simp only [jbC] at g3'
 have hlk:lookupA Try.prog w 149 (.map (some km)) (.agg ⟨[.int .i64 mo,.int .i64 ha,.int .i64 (-1)]⟩) false=.val (.int .i64 x) w:=hlk
 have he:mapEntryA Try.prog w 149 (.map (some km)) (.agg ⟨[.int .i64 mo,.int .i64 ha,.int .i64 (-1)]⟩)=.val (.tuple ⟨[.int .i64 x,.int .i64 (posN L (mo,ha, -1):Nat)]⟩) ⟨w.heap.put km (some (.map (entsK shC inV 0 L) L.length)),w.next,w.lim⟩:=he
 have hlk2:lookupA Try.prog ⟨w.heap.put km (some (.map (entsK shC inV 0 L) L.length)),w.next,w.lim⟩ 149 (.map (some km)) (.agg ⟨[.int .i64 mo,.int .i64 ha,.int .i64 (-1)]⟩) false=.val (.int .i64 x) ⟨w.heap.put km (some (.map (entsK shC inV 0 L) L.length)),w.next,w.lim⟩:=hlk2
 have hst:entryStoreA ⟨w.heap.put km (some (.map (entsK shC inV 0 L) L.length)),w.next,w.lim⟩ (.map (some km)) (.int .i64 (posN L (mo,ha, -1):Nat)) (.int .i64 (x - ma))=.val undef ⟨(w.heap.put km (some (.map (entsK shC inV 0 L) L.length))).put km (some (.map (entsK shC inV 0 (updK L (mo,ha, -1) (x - ma))) (updK L (mo,ha, -1) (x - ma)).length)),w.next,w.lim⟩:=hst
 simp only at g5 hx
 simp [mc99_r1,t0,t3,t5,g3',g5,n3,n5,hlk,hx,he,hlk2,hst]
 refine key _ _ ?_ ?_ ?_ ?_ ?_ ?_ ?_ n3 n6 hl2 hy _ ?_
 ·unfold MapAt; simp
 ·exact hl
 ·simp [t0]
 ·simp [t3]
 ·simp [t6]
 ·simp [n3,g3]
 ·simp [n6,g6]
 ·intro t w' t4 hM hm'
  refine hQ t w' t4 ⟨fun b hb=>?_,hM.next,hM.lim⟩ hm'
  rw [hM.keep b hb]
  simp [hb]
end
structure Kb (S:Nat→Prop) (w w':AW):Prop where
 keep:∀ b,b < w.next→¬ S b→w'.heap.get b=w.heap.get b
 next:w.next≤w'.next
 lim:w'.lim=w.lim
theorem Kb.of {S:Nat→Prop} {w w':AW} (h:Up w w'):Kb S w w':=⟨fun b hb _=>h.at hb,h.next,h.lim⟩
theorem Kb.trans {S:Nat→Prop} {a b c:AW} (h:Kb S a b) (k:Kb S b c):Kb S a c:=⟨fun x hx hn=>(k.keep x (Nat.lt_of_lt_of_le hx h.next) hn).trans (h.keep x hx hn),Nat.le_trans h.next k.next,k.lim.trans h.lim⟩
theorem Kb.mk' {km:Nat} {w w':AW} (h:Mk km w w'):Kb (fun x=>x=km) w w':=⟨fun b _ hn=>h.keep b hn,by rw [h.next]; exact Nat.le_refl _,h.lim⟩
theorem mapAt_up {α β:Type} {kC:α→Value} {vC:β→Value} {w w':AW} {b:Nat} {L:List (α × β)} (h:MapAt kC vC w b L) (k:Up w w') (hb:b < w.next):MapAt kC vC w' b L:=by
 unfold MapAt; rw [k.at hb]; exact h
def tkB (j:HJb) (x y:Int):Bool:=decide (1≤j.ma) && decide (j.ma≤min x y)
set_option maxHeartbeats 1000000 in
theorem call99 {ov:Ov} (m:Nat) (ho:∀ args w,ov 99 args w=none) (h81:HasP ov 81 S81.F) {km:Nat} {L:List (Sf × Int)} (j:HJb) (w:AW) (hm:MapAt shC inV w km L) (hk0:km < w.next) (hlk0:w.lim≤km) {x y:Int} (hk:lookK L (j.mo,j.ha, -1)=some x) (hk2:lookK L (j.mo,j.ha,j.ho)=some y) (hx:0≤x∧x≤1000) (hy:0≤y∧y≤1000) (h1:j.ho ≠ -1) :
  ∃ v w',(run Try.prog ov (m + 2)).call 99 [.map (some km),.agg ⟨jbC j⟩] w .none=.ok (.ret v) w' .none∧v=.bool (tkB j x y)∧Kb (fun b=>b=km) w w'∧MapAt shC inV w' km (if tkB j x y=true then updK (updK L (j.mo,j.ha, -1) (x - j.ma)) (j.mo,j.ha,j.ho) (y - j.ma) else L):=by
 refine call_wp text99 (by simp) (ho _ _) ?_
 rw [mc99_eq]
 obtain ⟨w1,hw1⟩:∃ w1:AW,w1=⟨((((w.heap.put w.next (some (.cells (jbC j) 67 false))).put (w.next + 1) (some (.cells [.int .i64 0,.int .i64 0,.int .i64 0] 157 false))).put (w.next + 1 + 1) (some (.cells [.int .i64 0,.int .i64 0,.int .i64 0] 157 false))).put (w.next + 1) (some (.cells [.int .i64 j.mo,.int .i64 j.ha,.int .i64 (-1)] 157 false))).put (w.next + 1 + 1) (some (.cells [.int .i64 j.mo,.int .i64 j.ha,.int .i64 j.ho] 157 false)),w.next + 1 + 1 + 1,w.lim⟩:=⟨_,rfl⟩
 have u1:Up w w1:=by rw [hw1]; exact (((((Up.refl w).add _).put (Nat.le_succ _) (Nat.le_succ _)).put (by omega) (Nat.le_succ _)).put (by omega) (Nat.le_refl _)).put (by omega) (Nat.le_refl _)
 have g3:w1.heap.get w.next=some (.cells (jbC j) 67 false):=by rw [hw1]; simp
 have g5:w1.heap.get (w.next + 1)=some (.cells [.int .i64 j.mo,.int .i64 j.ha,.int .i64 (-1)] 157 false):=by rw [hw1]; simp
 have g6:w1.heap.get (w.next + 1 + 1)=some (.cells [.int .i64 j.mo,.int .i64 j.ha,.int .i64 j.ho] 157 false):=by rw [hw1]; simp
 have n1:w1.next=w.next + 1 + 1 + 1:=by rw [hw1]
 have l1:w1.lim=w.lim:=u1.lim
 have hm1:MapAt shC inV w1 km L:=mapAt_up hm u1 hk0
 have u2:Up w1 ⟨w1.heap.put w1.next (some (.cells [.int .i64 y] 3 false)),w1.next + 1,w1.lim⟩:=(Up.refl _).add _
 have hm2:=mapAt_up hm1 u2 (by omega)
 have q1:=lookup_k (P:=Try.prog) (s:=149) map149 sh_ok zero3 hm1 (j.mo,j.ha, -1) false
 have q2:=lookup_k (P:=Try.prog) (s:=149) map149 sh_ok zero3 hm1 (j.mo,j.ha,j.ho) false
 have q3:=lookup_k (P:=Try.prog) (s:=149) map149 sh_ok zero3 hm2 (j.mo,j.ha, -1) false
 have q4:=lookup_k (P:=Try.prog) (s:=149) map149 sh_ok zero3 hm2 (j.mo,j.ha,j.ho) false
 rw [hk] at q1 q3
 rw [hk2] at q2 q4
 have hrow:RowsV intC ⟨w1.heap.put w1.next (some (.cells [.int .i64 y] 3 false)),w1.next + 1,w1.lim⟩ (.slice (some ⟨w1.next,0,some 2⟩) 1 1) [y] :=
  .inr ⟨w1.next,0,some 2,1,rfl,⟨[],[],3,false,by show (w1.heap.put w1.next _).get w1.next=_; rw [get_put,if_pos rfl]; rfl,rfl⟩,by show w1.next < w1.next + 1; omega⟩
 have r81:=S81.call (P:=Try.prog) h81 (m:=m) (w:=⟨w1.heap.put w1.next (some (.cells [.int .i64 y] 3 false)),w1.next + 1,w1.lim⟩) ⟨x,_,[y],rfl,hrow,by simp,rfl⟩
 have fin:∀ t w' (Q:Ex→Tm→AW→Prop),Up w1 w'→tget t 0=.map (some km)→tget t 3=.pointer (some ⟨w.next,0,none⟩)→tget t 5=.pointer (some ⟨w.next + 1,0,none⟩)→tget t 6=.pointer (some ⟨w.next + 1 + 1,0,none⟩)→j.ma≤min x y→1≤j.ma→(∀ t w2,tget t 4=.bool true→Kb (fun b=>b=km) w w2→MapAt shC inV w2 km (updK (updK L (j.mo,j.ha, -1) (x - j.ma)) (j.mo,j.ha,j.ho) (y - j.ma))→Q .ret t w2)→wp (exM Try.prog (run Try.prog ov (m + 1)) mc99_r1 t w') Q:=by
  intro t w' Q u t0 t3 t5 t6 hle1 hle2 hQ
  have i1:j.ma≤x:=by omega
  have i2:j.ma≤y:=by omega
  refine part99a (km:=km) (j:=j) (L:=L) (B3:=w.next) (B5:=w.next + 1) (B6:=w.next + 1 + 1) (m + 1) t w' (mapAt_up hm1 u (by omega)) (by rw [u.lim,l1]; exact hlk0) t0 t3 t5 t6 ?_ ?_ ?_ (by omega) (by omega) (by omega) hk (wrap64_in (by omega) (by omega)) hk2 (wrap64_in (by omega) (by omega)) h1 Q ?_
  ·rw [u.at (by omega)]; exact g3
  ·rw [u.at (by omega)]; exact g5
  ·rw [u.at (by omega)]; exact g6
  ·intro t w2 t4 hM hm3
   exact hQ t w2 t4 ((Kb.of (u1.trans u)).trans (Kb.mk' hM)) hm3
 have kb1:Kb (fun b=>b=km) w w1:=.of u1
 have kb2:Kb (fun b=>b=km) w ⟨w1.heap.put w1.next (some (.cells [.int .i64 y] 3 false)),w1.next + 1,w1.lim⟩:=.of (u1.trans u2)
 have hle:w.lim≤w.next:=by omega
 have hle1:w.lim≤w.next + 1:=by omega
 have hle2:w.lim≤w.next + 1 + 1:=by omega
 obtain ⟨mo,ho,ha,vi,ma⟩:=j
 have q1:lookupA Try.prog w1 149 (.map (some km)) (.agg ⟨[.int .i64 mo,.int .i64 ha,.int .i64 (-1)]⟩) false=.val (.int .i64 x) w1:=q1
 have q2:lookupA Try.prog w1 149 (.map (some km)) (.agg ⟨[.int .i64 mo,.int .i64 ha,.int .i64 ho]⟩) false=.val (.int .i64 y) w1:=q2
 have q3:lookupA Try.prog ⟨w1.heap.put w1.next (some (.cells [.int .i64 y] 3 false)),w1.next + 1,w1.lim⟩ 149 (.map (some km)) (.agg ⟨[.int .i64 mo,.int .i64 ha,.int .i64 (-1)]⟩) false=.val (.int .i64 x) _:=q3
 have q4:lookupA Try.prog ⟨w1.heap.put w1.next (some (.cells [.int .i64 y] 3 false)),w1.next + 1,w1.lim⟩ 149 (.map (some km)) (.agg ⟨[.int .i64 mo,.int .i64 ha,.int .i64 ho]⟩) false=.val (.int .i64 y) _:=q4
 simp only [jbC] at hw1 ⊢
 simp only [tkB]
 rw [hw1] at q1 q2 q3 q4 r81 kb1 kb2 hm1 hm2 fin
 have e1:[y].foldl min x=min x y:=rfl
 rw [e1] at r81
 by_cases k1:ma < 1
 ·have k1':¬ 1≤ma:=by omega
  simp [cellsOf_agg,hle,hle1,hle2,k1,k1',smi3,tupV]
  exact ⟨kb1,hm1⟩
 ·have k1':1≤ma:=by omega
  by_cases k2:min x y < ma
  ·have k2':¬ ma≤min x y:=by omega
   simp [cellsOf_agg,hle,hle1,hle2,k1,k1',k2,k2',smi3,q1,q2,q3,q4,r81,tupV]
   exact ⟨kb2,hm2⟩
  ·have k2':ma≤min x y:=by omega
   simp [cellsOf_agg,hle,hle1,hle2,k1,k1',k2,k2',smi3,q1,q2,q3,q4,r81]
   refine fin _ _ _ ?_ ?_ ?_ ?_ ?_ k2' k1' ?_
   ·exact (Up.refl _).add _
   ·simp
   ·simp
   ·simp
   ·simp
   ·intro t w2 t4 hK hm3
    simp [t4,tupV]
    exact ⟨hK,hm3⟩
def partG {α:Type} (z:α) (L:List α) (i:Nat):List α:=L.take i++List.replicate (L.length - i) z
theorem partG_zero {α:Type} (z:α) (L:List α):partG z L 0=List.replicate L.length z:=by simp [partG]
theorem partG_full {α:Type} (z:α) (L:List α):partG z L L.length=L:=by simp [partG]
theorem partG_length {α:Type} {z:α} {L:List α} {i:Nat} (h:i≤L.length):(partG z L i).length=L.length:=by simp [partG]; omega
theorem partG_set {α:Type} {z:α} {L:List α} {i:Nat} {x:α} (h:L[i]?=some x):(partG z L i).set i x=partG z L (i + 1):=by
 have hi:=(List.getElem?_eq_some_iff.1 h).1
 unfold partG
 rw [List.take_add_one,h]
 obtain ⟨k,hk⟩:∃ k,L.length - i=k + 1:=⟨L.length - i - 1,by omega⟩
 rw [hk,List.replicate_succ,List.set_append_right _ _ (by rw [List.length_take]; omega)]
 rw [show i - (L.take i).length=0 by rw [List.length_take]; omega,List.set_cons_zero,show L.length - (i + 1)=k by omega]
 simp
def hnP (p:HHd × Value):List Value:=hnC p.1 p.2
@[simp] theorem hnP_length (p:HHd × Value):(hnP p).length=6:=rfl
def zH:HHd × Value:=(⟨0,0,0,0,0⟩,.slice none 0 0)
theorem mk84 (n:Nat) (hn:n≤1000) (w:AW):makeSliceA Try.prog w 84 (.int .i64 (n:Int)) (.int .i64 (n:Int))=.val (.slice (some ⟨w.next,0,none⟩) n n) ⟨w.heap.put w.next (some (.cells ((List.replicate n zH).flatMap hnP) 87 false)),w.next + 1,w.lim⟩:=by
 rw [make_eq (e:=87) (z:=.agg ⟨hnP zH⟩) (by kernel_rfl) (by kernel_rfl) (by kernel_rfl) n hn w,← repl_flat]; rfl
theorem call43 {ov:Ov} (M:Nat) (ho:∀ args w,ov 43 args w=none) (vs:List HVn) (hs:List HHd) (fs:List (List (Int × Int))) (hh4:hs.length≤4) (vv hv fv:Value) (w:AW) (hl:w.lim≤w.next) (hS:SeaV w vv hv fv vs hs fs) :
  ∃ v w',(run Try.prog ov (M + 1)).call 43 [.agg ⟨[vv,hv,fv]⟩] w .none=.ok (.ret v) w' .none∧RowsV hnP w' v (hs.map fun h=>(h,vv))∧Up w w':=by
 refine call_wp text43 (by simp) (ho _ _) ?_
 obtain ⟨nv,nh,nf⟩:=hS.nj
 obtain ⟨va,vc,hvv⟩:=hS.v.len
 have hl2:=fun w2=>len23V (w':=w2) hS.h
 have hmk:=fun w=>mk84 hs.length (by omega) w
 obtain ⟨R,hR⟩:∃ R:List (HHd × Value),R=hs.map fun h=>(h,vv):=⟨_,rfl⟩
 have hRl:R.length=hs.length:=by rw [hR,List.length_map]
 rw [← hR]
 subst hvv
 simp [mc43,cellsOf_agg,nv,nh,nf,hl2,hmk]
 refine wp_seqX (wp_blockX (wp_rounds (fun i t w2=>Up w w2∧w.next + 2≤w2.next∧w2.heap.get w.next=some (.cells [.slice va vs.length vc,hv,fv] 26 false)∧w2.heap.get (w.next + 1)=some (.cells ((partG zH R i).flatMap hnP) 87 false)∧tget t 1=.pointer (some ⟨w.next,0,none⟩)∧tget t 3=.slice (some ⟨w.next + 1,0,none⟩) hs.length hs.length∧tget t 11=hv∧tget t 12=.int .i64 (hs.length:Nat)∧tget t 13=.int .i64 (i:Nat)∧i≤hs.length) 20 (by decide) ?_ ?_))
 ·refine ⟨((Up.refl w).add _).put (Nat.le_succ _) (Nat.le_succ _),by show w.next + 2≤w.next + 1 + 1; omega,by simp,?_,by simp,by simp,by simp,by simp,by simp,Nat.zero_le _⟩
  rw [partG_zero,hRl]; simp
 ·rintro i t w2 ⟨hu,hn,gX,gB,t1,t3,t11,t12,t13,hi⟩
  have hlm:=hu.lim
  by_cases hlt:i < hs.length
  ·obtain ⟨x,hx⟩:=lt_get hlt
   have hRx:R[i]?=some (x,.slice va vs.length vc):=by rw [hR,List.getElem?_map,hx]; rfl
   obtain ⟨p,hia,hld,_,hpb⟩:=getR un23 sz77 hhC_length (hS.up hu).h rfl hx
   have hw1:IntKind.wrap .i64 ((i:Int) + 1)=(i:Int) + 1:=wrap64_in (by omega) (by omega)
   have hle:w2.lim≤w2.next:=by omega
   have n1:¬ w.next=w2.next:=by omega
   have n2:¬ w.next + 1=w2.next:=by omega
   have hle2:w2.lim≤w.next + 1:=by omega
   have hia2:=fun w'=>ia84 w' ⟨w.next + 1,0,none⟩ hs.length hs.length .i64 i hlt
   have hcl:((partG zH R i).flatMap hnP).length=hs.length * 6:=by rw [flat_length hnP_length,partG_length (by omega),hRl]
   have hfit:i * 6 + 6≤((partG zH R i).flatMap hnP).length:=by rw [hcl]; omega
   have hst:=flat_set hnP_length (partG zH R i) i (x,.slice va vs.length vc) (by rw [partG_length (by omega)]; omega)
   rw [partG_set hRx] at hst
   obtain ⟨cs,hcs⟩:∃ cs,cs=(partG zH R i).flatMap hnP:=⟨_,rfl⟩
   rw [← hcs] at gB hfit hst
   obtain ⟨a0,a1,a2,a3,a4⟩:=x
   simp only [hhC] at hld
   simp only [hnP,hnC] at hst
   simp [mc43_l0,t1,t3,t11,t12,t13,hlt,hia,hld,hle,hle2,n1,n2,gX,nh,nf,gB,hia2,cellsOf_agg,hfit,hw1]
   refine ⟨by omega,?_,by omega,?_,by omega⟩
   ·exact (((hu.add _).put hu.next (Nat.le_refl _)).put (Nat.le_succ _) (Nat.le_refl _))
   ·simpa [hnP,hnC] using hst
  ·have hi':i=hs.length:=by omega
   have hRf:partG zH R i=R:=by rw [hi',← hRl]; exact partG_full _ _
   rw [hRf] at gB
   simp [mc43_l0,t1,t3,t12,t13,hi',tupV]
   refine ⟨.inr ⟨w.next + 1,0,none,hs.length,by rw [hRl],⟨[],[],87,false,by simpa using gB,rfl⟩,by omega⟩,hu⟩
def FullM (hs:List HHd) (L:List (Sf × Int)) (m h:Nat):Prop:=∀ (m' h':Nat) x,hs[h']?=some x→(m' < m∨(m'=m∧h' < h))→lookK L ((m':Int),(h':Int), -1)=some x.da∧∀ o:Nat,o < 12→lookK L ((m':Int),(h':Int),(o:Int))=some x.ra
theorem key_ne {a b c d:Nat} {x y:Int} (h:a ≠ c∨b ≠ d∨x ≠ y):¬ (((a:Int),(b:Int),x):Sf)=((c:Int),(d:Int),y):=by
 intro e
 injection e with e1 e
 injection e with e2 e3
 have:=Int.ofNat.inj e1
 have:=Int.ofNat.inj e2
 omega
theorem FullM.upd {hs:List HHd} {L:List (Sf × Int)} {m h:Nat} (H:FullM hs L m h) (o z:Int):FullM hs (updK L ((m:Int),(h:Int),o) z) m h:=fun m' h' x hx hlt=>by
 obtain ⟨a,b⟩:=H m' h' x hx hlt
 refine ⟨?_,fun o' ho'=>?_⟩
 ·rw [lookK_upd,if_neg (key_ne (by omega))]; exact a
 ·rw [lookK_upd,if_neg (key_ne (by omega))]; exact b o' ho'
theorem FullM.next {hs:List HHd} {L:List (Sf × Int)} {m h:Nat} (H:FullM hs L m h) {x:HHd} (hx:hs[h]?=some x) (h1:lookK L ((m:Int),(h:Int), -1)=some x.da) (h2:∀ o:Nat,o < 12→lookK L ((m:Int),(h:Int),(o:Int))=some x.ra):FullM hs L m (h + 1):=fun m' h' y hy hlt=>by
 by_cases e:m'=m∧h'=h
 ·obtain ⟨rfl,rfl⟩:=e
  rw [hx] at hy; cases hy
  exact ⟨h1,h2⟩
 ·exact H m' h' y hy (by omega)
theorem FullM.row {hs:List HHd} {L:List (Sf × Int)} {m:Nat} (H:FullM hs L m hs.length):FullM hs L (m + 1) 0:=fun m' h' y hy hlt=>by
 have:=(List.getElem?_eq_some_iff.1 hy).1
 exact H m' h' y hy (by omega)
section
variable {ov:Ov} {vs:List HVn} {hs:List HHd} {fs:List (List (Int × Int))} {vv hv fv:Value} {w0:AW} {X km:Nat}
structure Gw (w0:AW) (X km:Nat) (vv hv fv:Value) (L:List (Sf × Int)) (w:AW):Prop where
 up:Up w0 w
 gx:w.heap.get X=some (.cells [vv,hv,fv] 26 false)
 mp:MapAt shC inV w km L
 kl:w0.next≤km
 kn:km < w.next
 xn:X < w.next
 ne:¬ X=km
 lm:w.lim≤w0.next
theorem loop97c (M:Nat) (x:HHd) (m h A:Nat) (L0:List (Sf × Int)) (hF:FullM hs L0 m h) (hd:lookK L0 ((m:Int),(h:Int), -1)=some x.da) (w:AW) (G:Gw w0 X km vv hv fv L0 w) (hA:w.heap.get A=some (.cells (hhC x) 77 false)) (hAn:¬ A=km) (v1 v11 v12 v16 v17 v18:Value) (t:Tm) (t1:tget t 1=v1) (t3:tget t 3=.map (some km)) (t4:tget t 4=.int .i64 (m:Nat)) (t5:tget t 5=.int .i64 (h:Nat)) (t6:tget t 6=.pointer (some ⟨A,0,none⟩)) (t11:tget t 11=v11) (t12:tget t 12=v12) (t16:tget t 16=v16) (t17:tget t 17=v17) (t18:tget t 18=v18) (t29:tget t 29=.int .i64 0) (Q:Ex→Tm→AW→Prop)
  (hQ:∀ t w L,Gw w0 X km vv hv fv L w→FullM hs L m h→lookK L ((m:Int),(h:Int), -1)=some x.da→(∀ o:Nat,o < 12→lookK L ((m:Int),(h:Int),(o:Int))=some x.ra)→tget t 1=v1→tget t 3=.map (some km)→tget t 4=.int .i64 (m:Nat)→tget t 11=v11→tget t 12=v12→tget t 16=v16→tget t 17=v17→tget t 18=v18→Q (.exit 4) t w):wp (exM Try.prog (run Try.prog ov M) (.loop mc97_l2) t w) Q:=by
 refine wp_rounds (fun i t w=>(∃ L,Gw w0 X km vv hv fv L w∧FullM hs L m h∧lookK L ((m:Int),(h:Int), -1)=some x.da∧∀ o:Nat,o < i→lookK L ((m:Int),(h:Int),(o:Int))=some x.ra)∧w.heap.get A=some (.cells (hhC x) 77 false)∧tget t 1=v1∧tget t 3=.map (some km)∧tget t 4=.int .i64 (m:Nat)∧tget t 5=.int .i64 (h:Nat)∧tget t 6=.pointer (some ⟨A,0,none⟩)∧tget t 11=v11∧tget t 12=v12∧tget t 16=v16∧tget t 17=v17∧tget t 18=v18∧tget t 29=.int .i64 (i:Nat)∧i≤12) 20 (by decide) ⟨⟨L0,G,hF,hd,fun o ho=>absurd ho (Nat.not_lt_zero _)⟩,hA,t1,t3,t4,t5,t6,t11,t12,t16,t17,t18,by simpa using t29,Nat.zero_le _⟩ ?_
 clear t1 t3 t4 t5 t6 t11 t12 t16 t17 t18 t29 hA G hF hd t w
 rintro i t w ⟨⟨L,G,hF,hd,hr⟩,hA,t1,t3,t4,t5,t6,t11,t12,t16,t17,t18,t29,hi⟩
 by_cases hlt:i < 12
 ·have hlt':(i:Int) < 12:=by omega
  have hw1:IntKind.wrap .i64 ((i:Int) + 1)=(i:Int) + 1:=wrap64_in (by omega) (by omega)
  have hup:=update_k (P:=Try.prog) (s:=149) map149 sh_ok G.mp (by have:=G.lm; have:=G.kl; omega) ((m:Int),(h:Int),(i:Int)) x.ra
  obtain ⟨a0,a1,a2,a3,a4⟩:=x
  have hup:mapUpdateA Try.prog w 149 (.map (some km)) (.agg ⟨[.int .i64 (m:Int),.int .i64 (h:Int),.int .i64 (i:Int)]⟩) (.int .i64 a3)=_:=hup
  simp only [hhC] at hA
  simp [mc97_l2,t1,t3,t4,t5,t6,t29,hlt,hlt',hA,hup,hw1]
  refine ⟨by omega,⟨updK L ((m:Int),(h:Int),(i:Int)) a3,⟨G.up.put G.kl (Nat.le_refl _),by show (w.heap.put km _).get X=_; rw [get_put,if_neg G.ne]; exact G.gx,by unfold MapAt; simp,G.kl,G.kn,G.xn,G.ne,G.lm⟩,hF.upd _ _,?_,fun o ho=>?_⟩,?_,t11,t12,t16,t17,t18,by omega⟩
  ·rw [lookK_upd,if_neg (key_ne (by omega))]; exact hd
  ·rw [lookK_upd]
   by_cases e:o=i
   ·subst e; rw [if_pos rfl]
   ·rw [if_neg (key_ne (by omega))]; exact hr o (by omega)
  ·simp [hAn,hhC,hA]
 ·have hi':i=12:=by omega
  subst hi'
  simp [mc97_l2,t29]
  exact hQ _ _ L G hF hd hr (by simp [t1]) (by simp [t3]) (by simp [t4]) (by simp [t11]) (by simp [t12]) (by simp [t16]) (by simp [t17]) (by simp [t18])
end
section
variable {ov:Ov} {vs:List HVn} {hs:List HHd} {fs:List (List (Int × Int))} {vv hv fv:Value} {w0:AW} {X km:Nat}
theorem loop97b (M:Nat) (hh4:hs.length≤4) (hS:SeaV w0 vv hv fv vs hs fs) (m:Nat) (L0:List (Sf × Int)) (hF:FullM hs L0 m 0) (w:AW) (G:Gw w0 X km vv hv fv L0 w) (v1 v11 v12:Value) (t:Tm) (t1:tget t 1=v1) (t3:tget t 3=.map (some km)) (t4:tget t 4=.int .i64 (m:Nat)) (t11:tget t 11=v11) (t12:tget t 12=v12) (t16:tget t 16=hv) (t17:tget t 17=.int .i64 (hs.length:Nat)) (t18:tget t 18=.int .i64 0) (Q:Ex→Tm→AW→Prop)
  (hQ:∀ t w L,Gw w0 X km vv hv fv L w→FullM hs L (m + 1) 0→tget t 1=v1→tget t 3=.map (some km)→tget t 11=v11→tget t 12=v12→Q (.exit 2) t w):wp (exM Try.prog (run Try.prog ov M) (.loop mc97_l1) t w) Q:=by
 refine wp_rounds (fun i t w=>(∃ L,Gw w0 X km vv hv fv L w∧FullM hs L m i)∧tget t 1=v1∧tget t 3=.map (some km)∧tget t 4=.int .i64 (m:Nat)∧tget t 11=v11∧tget t 12=v12∧tget t 16=hv∧tget t 17=.int .i64 (hs.length:Nat)∧tget t 18=.int .i64 (i:Nat)∧i≤hs.length) 20 (by decide) ⟨⟨L0,G,hF⟩,t1,t3,t4,t11,t12,t16,t17,by simpa using t18,Nat.zero_le _⟩ ?_
 clear t1 t3 t4 t11 t12 t16 t17 t18 G hF t w
 rintro i t w ⟨⟨L,G,hF⟩,t1,t3,t4,t11,t12,t16,t17,t18,hi⟩
 by_cases hlt:i < hs.length
 ·have hw1:IntKind.wrap .i64 ((i:Int) + 1)=(i:Int) + 1:=wrap64_in (by omega) (by omega)
  obtain ⟨x,hx⟩:=lt_get hlt
  obtain ⟨p,hia,hld,_,hpb⟩:=getR un23 sz77 hhC_length (hS.up G.up).h rfl hx
  have hle:w.lim≤w.next:=by have:=G.lm; have:=G.up.next; omega
  have hx':=hx
  obtain ⟨w1,hw1e⟩:∃ w1:AW,w1=⟨(w.heap.put w.next (some (.cells [.int .i64 0,.int .i64 0,.int .i64 0,.int .i64 0,.int .i64 0] 77 false))).put w.next (some (.cells (hhC x) 77 false)),w.next + 1,w.lim⟩:=⟨_,rfl⟩
  have hne:¬ km=w.next:=by have:=G.kn; omega
  have hXn:¬ X=w.next:=by have:=G.xn; omega
  have G1:Gw w0 X km vv hv fv L w1:=by
   rw [hw1e]
   exact ⟨(G.up.add _).put G.up.next (Nat.le_refl _),by simp [hXn,G.gx],by have:=G.mp; unfold MapAt at this ⊢; simp [hne,this],G.kl,by show km < w.next + 1; have:=G.kn; omega,by show X < w.next + 1; have:=G.xn; omega,G.ne,G.lm⟩
  have gA:w1.heap.get w.next=some (.cells (hhC x) 77 false):=by rw [hw1e]; simp
  have hup:=update_k (P:=Try.prog) (s:=149) map149 sh_ok G1.mp (by have:=G1.lm; have:=G1.kl; omega) ((m:Int),(i:Int), -1) x.da
  have G2:Gw w0 X km vv hv fv (updK L ((m:Int),(i:Int), -1) x.da) ⟨w1.heap.put km (some (.map (entsK shC inV 0 (updK L ((m:Int),(i:Int), -1) x.da)) (updK L ((m:Int),(i:Int), -1) x.da).length)),w1.next,w1.lim⟩ :=
   ⟨G1.up.put G1.kl (Nat.le_refl _),by show (w1.heap.put km _).get X=_; rw [get_put,if_neg G1.ne]; exact G1.gx,by unfold MapAt; simp,G1.kl,G1.kn,G1.xn,G1.ne,G1.lm⟩
  have key:=fun t=>loop97c (ov:=ov) (hs:=hs) (vv:=vv) (hv:=hv) (fv:=fv) (w0:=w0) (X:=X) (km:=km) M x m i w.next _ (hF.upd (-1) x.da) (by rw [lookK_upd,if_pos rfl]) _ G2 (by show (w1.heap.put km _).get w.next=_; rw [get_put,if_neg (fun e=>hne e.symm)]; exact gA) (fun e=>hne e.symm) v1 v11 v12 hv (.int .i64 (hs.length:Nat)) (.int .i64 (i:Nat)) t
  obtain ⟨a0,a1,a2,a3,a4⟩:=x
  have hup:mapUpdateA Try.prog w1 149 (.map (some km)) (.agg ⟨[.int .i64 (m:Int),.int .i64 (i:Int),.int .i64 (-1)]⟩) (.int .i64 a4)=_:=hup
  simp only [hhC] at hld gA hw1e
  rw [hw1e] at hup key
  simp [mc97_l1,t1,t3,t4,t16,t17,t18,hlt,hia,hld,hle,hup]
  refine wp_seqX (wp_blockX (wp_blockX (key _ ?_ ?_ ?_ ?_ ?_ ?_ ?_ ?_ ?_ ?_ ?_ _ ?_)))
  ·simp [t1]
  ·simp [t3]
  ·simp [t4]
  ·simp
  ·simp
  ·simp [t11]
  ·simp [t12]
  ·simp [t16]
  ·simp [t17]
  ·simp [t18]
  ·simp
  ·intro t w L' G' hF' hd' hr' s1 s3 s4 s11 s12 s16 s17 s18
   simp [s1,s3,s4,s11,s12,s16,s17,s18,hw1]
   exact ⟨by omega,⟨L',G',hF'.next hx' hd' hr'⟩,by omega⟩
 ·have hi':i=hs.length:=by omega
  subst hi'
  simp [mc97_l1,t17,t18]
  exact hQ _ _ L G hF.row (by simp [t1]) (by simp [t3]) (by simp [t11]) (by simp [t12])
theorem call97 {ov:Ov} (M:Nat) (ho:∀ args w,ov 97 args w=none) (vs:List HVn) (hs:List HHd) (fs:List (List (Int × Int))) (hh4:hs.length≤4) (hf6:fs.length≤6) (vv hv fv:Value) (w:AW) (hl:w.lim≤w.next) (hS:SeaV w vv hv fv vs hs fs) :
  ∃ v w',(run Try.prog ov (M + 1)).call 97 [.agg ⟨[vv,hv,fv]⟩] w .none=.ok (.ret v) w' .none∧∃ km L,v=.map (some km)∧MapAt shC inV w' km L∧w.next≤km∧km < w'.next∧FullM hs L fs.length 0∧Up w w':=by
 refine call_wp text97 (by simp) (ho _ _) ?_
 obtain ⟨nv,nh,nf⟩:=hS.nj
 have hl2:=fun w2=>len23V (w':=w2) hS.h
 have hl3:=fun w2=>len24V (w':=w2) hS.f
 simp [mc97,cellsOf_agg,nv,nh,nf,hl3]
 refine wp_seqX (wp_blockX (wp_rounds (fun i t w2=>(∃ L,Gw w w.next (w.next + 1) vv hv fv L w2∧FullM hs L i 0)∧tget t 1=.pointer (some ⟨w.next,0,none⟩)∧tget t 3=.map (some (w.next + 1))∧tget t 11=.int .i64 (fs.length:Nat)∧tget t 12=.int .i64 (i:Nat)∧i≤fs.length) 20 (by decide) ?_ ?_))
 ·refine ⟨⟨[],⟨((Up.refl w).add _).put (Nat.le_succ _) (Nat.le_succ _),by simp,by unfold MapAt; simp [entsK],Nat.le_succ _,by show w.next + 1 < w.next + 1 + 1; omega,by show w.next < w.next + 1 + 1; omega,by omega,hl⟩,fun m' h' x hx hlt=>by omega⟩,by simp,by simp,by simp,by simp,Nat.zero_le _⟩
 ·rintro i t w2 ⟨⟨L,G,hF⟩,t1,t3,t11,t12,hi⟩
  by_cases hlt:i < fs.length
  ·have hw1:IntKind.wrap .i64 ((i:Int) + 1)=(i:Int) + 1:=wrap64_in (by omega) (by omega)
   have gX:=G.gx
   simp [mc97_l0,t1,t3,t11,t12,hlt,gX,nv,nh,nf,hl2]
   refine wp_seqX (wp_blockX (wp_blockX (loop97b M hh4 hS i L hF w2 G (.pointer (some ⟨w.next,0,none⟩)) (.int .i64 (fs.length:Nat)) (.int .i64 (i:Nat)) _ ?_ ?_ ?_ ?_ ?_ ?_ ?_ ?_ _ ?_)))
   ·simp [t1]
   ·simp [t3]
   ·simp
   ·simp [t11]
   ·simp [t12]
   ·simp
   ·simp
   ·simp
   ·intro t w3 L' G' hF' s1 s3 s11 s12
    simp [s1,s3,s11,s12,hw1]
    exact ⟨by omega,⟨L',G',hF'⟩,by omega⟩
  ·have hi':i=fs.length:=by omega
   subst hi'
   simp [mc97_l0,t3,t11,t12,tupV]
   exact ⟨_,rfl,_,rfl,L,G.mp,G.kl,G.kn,hF,G.up⟩
end
noncomputable def mc83_l0_b2:MC:=.seq (.ops [⟨true,none,some 37,26,.load 26 (.tmp 2)⟩,⟨true,none,some 38,67,.load 67 (.tmp 8)⟩,⟨false,none,some 39,4,.call ⟨.value (.func 98),#[.tmp 37,.tmp 38],#[26,67]⟩⟩,⟨true,none,some 40,4,.unOp .not 4 (.tmp 39)⟩,⟨true,none,some 41,4,.move (.tmp 40)⟩,⟨true,some (41,false),some 42,84,.move (.tmp 5)⟩,⟨true,some (41,false),some 43,0,.fieldAddr 67 (.tmp 8) 2⟩,⟨true,some (41,false),some 44,3,.load 3 (.tmp 43)⟩,⟨true,some (41,false),some 45,0,.indexAddr 84 (.tmp 42) (.tmp 44)⟩,⟨true,some (41,false),some 46,87,.load 87 (.tmp 45)⟩,⟨true,some (41,false),some 47,0,.fieldAddr 67 (.tmp 8) 1⟩,⟨true,some (41,false),some 48,3,.load 3 (.tmp 47)⟩,⟨true,some (41,false),some 49,0,.fieldAddr 67 (.tmp 8) 3⟩,⟨true,some (41,false),some 50,3,.load 3 (.tmp 49)⟩,⟨false,some (41,false),some 51,4,.call ⟨.value (.func 72),#[.tmp 46,.tmp 48,.tmp 50],#[87,3,3]⟩⟩,⟨true,some (41,false),some 52,4,.unOp .not 4 (.tmp 51)⟩,⟨true,none,some 53,4,.pick (.tmp 41) (.const (.bool true)) (.tmp 52)⟩,⟨true,none,some 54,4,.move (.tmp 53)⟩,⟨true,some (54,false),some 55,149,.move (.tmp 6)⟩,⟨true,some (54,false),some 56,67,.load 67 (.tmp 8)⟩,⟨false,some (54,false),some 57,4,.call ⟨.value (.func 99),#[.tmp 55,.tmp 56],#[149,67]⟩⟩,⟨true,some (54,false),some 58,4,.unOp .not 4 (.tmp 57)⟩,⟨true,none,some 59,4,.pick (.tmp 54) (.const (.bool true)) (.tmp 58)⟩]) (.cond (.tmp 59) (.seq (.ops [⟨false,none,some 4,4,.assign (.const (.bool false))⟩]) (.ret)) (.skip))
noncomputable def mc83_l0_b1:MC:=.seq (.seq (.seq (.ops [⟨true,none,some 23,3,.move (.tmp 7)⟩]) (.seq (.ops [⟨true,none,some 24,4,.binOp .gtr 3 (.tmp 23) (.const (.int .i64 0)) 3⟩]) (.seq (.ops [⟨true,none,some 25,4,.move (.tmp 24)⟩]) (.seq (.ops [⟨true,some (25,true),some 26,39,.move (.tmp 1)⟩]) (.seq (.ops [⟨true,some (25,true),some 27,3,.move (.tmp 7)⟩]) (.seq (.ops [⟨true,some (25,true),some 28,3,.binOp .sub 3 (.tmp 27) (.const (.int .i64 1)) 3⟩]) (.seq (.ops [⟨true,some (25,true),some 29,0,.indexAddr 39 (.tmp 26) (.tmp 28)⟩]) (.seq (.ops [⟨true,some (25,true),some 30,67,.load 67 (.tmp 29)⟩]) (.seq (.ops [⟨true,some (25,true),some 32,67,.load 67 (.tmp 8)⟩]) (.seq (.ops [⟨false,some (25,true),some 31,42,.call ⟨.value (.func 93),#[.tmp 30],#[67]⟩⟩]) (.seq (.chk [⟨true,some (25,true),some 32,67,.load 67 (.tmp 8)⟩]) (.seq (.ops [⟨false,some (25,true),some 33,42,.call ⟨.value (.func 93),#[.tmp 32],#[67]⟩⟩]) (.seq (.ops [⟨false,some (25,true),some 34,3,.call ⟨.value (.func 92),#[.tmp 31,.tmp 33],#[42,42]⟩⟩]) (.seq (.ops [⟨true,some (25,true),some 35,4,.binOp .geq 3 (.tmp 34) (.const (.int .i64 0)) 3⟩]) (.seq (.ops [⟨true,none,some 36,4,.pick (.tmp 25) (.tmp 35) (.const (.bool false))⟩]) (.chk [])))))))))))))))) (.cond (.tmp 36) (.seq (.ops [⟨false,none,some 4,4,.assign (.const (.bool false))⟩]) (.ret)) (.skip))) mc83_l0_b2
theorem mc83_l0_eq:mc83_l0=.seq (.ops [⟨false,none,some 19,0,.binOp .lss 3 (.tmp 18) (.tmp 17) 3⟩]) (.seq (.cond (.tmp 19) (.skip) (.exit 0)) (.seq (.block 1 (.seq (.ops [⟨false,none,some 20,3,.move (.tmp 18)⟩,⟨false,none,some 21,0,.indexAddr 39 (.tmp 16) (.tmp 18)⟩,⟨false,none,some 22,67,.load 67 (.tmp 21)⟩,⟨false,none,some 8,0,.alloc 67⟩,⟨false,none,some 7,3,.assign (.tmp 20)⟩,⟨false,none,none,0,.store 67 (.tmp 8) (.tmp 22)⟩]) mc83_l0_b1)) (.ops [⟨false,none,some 60,3,.binOp .add 3 (.tmp 18) (.const (.int .i64 1)) 3⟩,⟨false,none,some 18,3,.move (.tmp 60)⟩]))):=rfl
def AbOk (hs:List HHd) (M:Nat) (L:List (Sf × Int)) (p:List HJb):Prop:=∀ (m h:Nat) x,m < M→hs[h]?=some x→lookK L ((m:Int),(h:Int), -1)=some (x.da - dayS p m h)∧∀ o:Nat,o < 12→lookK L ((m:Int),(h:Int),(o:Int))=some (x.ra - hrS p m h o)
theorem FullM.ab {hs:List HHd} {L:List (Sf × Int)} {M:Nat} (H:FullM hs L M 0):AbOk hs M L []:=fun m h x hm hx=>by
 obtain ⟨a,b⟩:=H m h x hx (.inl hm)
 refine ⟨by rw [a]; simp [dayS],fun o ho=>by rw [b o ho]; simp [hrS]⟩
theorem AbOk.push {hs:List HHd} {M:Nat} {L:List (Sf × Int)} {p:List HJb} (H:AbOk hs M L p) {m h o:Nat} {x:HHd} (hm:m < M) (hx:hs[h]?=some x) (ho:o < 12) (j:HJb) (e1:j.mo=m) (e2:j.ha=h) (e3:j.ho=o) :
  AbOk hs M (updK (updK L ((m:Int),(h:Int), -1) (x.da - dayS p m h - j.ma)) ((m:Int),(h:Int),(o:Int)) (x.ra - hrS p m h o - j.ma)) (p++[j]):=fun m' h' y hm' hy=>by
 obtain ⟨a,b⟩:=H m' h' y hm' hy
 refine ⟨?_,fun o' ho'=>?_⟩
 ·rw [lookK_upd,if_neg (key_ne (by omega)),lookK_upd,dayS_push]
  by_cases e:m'=m∧h'=h
  ·obtain ⟨rfl,rfl⟩:=e
   rw [hx] at hy; cases hy
   rw [if_pos rfl,if_pos ⟨e1,e2⟩,Int.sub_sub]
  ·rw [if_neg (key_ne (by omega)),a,if_neg (by omega),Int.add_zero]
 ·rw [lookK_upd,hrS_push]
  by_cases e:m'=m∧h'=h∧o'=o
  ·obtain ⟨rfl,rfl,rfl⟩:=e
   rw [hx] at hy; cases hy
   rw [if_pos rfl,if_pos ⟨e1,e2,e3⟩,Int.sub_sub]
  ·rw [if_neg (key_ne (by omega)),lookK_upd,if_neg (key_ne (by omega)),b o' ho',if_neg (by omega),Int.add_zero]
def tk2 (vs:List HVn) (hs:List HHd) (M:Nat) (p:List HJb) (j:HJb):Bool:=jobB vs.length hs.length M j && match hs[j.ha.toNat]?,vs[j.vi.toNat]? with
  | some h,some v=>canH h v j.ho j.vi && (decide (1≤j.ma) && (decide (j.ma≤h.da - dayS p j.mo j.ha) && decide (j.ma≤h.ra - hrS p j.mo j.ha j.ho)))
  | _,_=>false
theorem jst_eq (vs:List HVn) (hs:List HHd) (M:Nat) (p:List HJb) (j:HJb):jstB vs hs M p j=(ordB p j && tk2 vs hs M p j):=rfl
structure Pw (wS:AW) (km:Nat) (hs:List HHd) (M:Nat) (p:List HJb) (w:AW):Prop where
 up:Up wS w
 kn:km < w.next
 mp:∃ L,MapAt shC inV w km L∧AbOk hs M L p
theorem Pw.grow {wS:AW} {km:Nat} {hs:List HHd} {M:Nat} {p:List HJb} {w w':AW} (h:Pw wS km hs M p w) (k:Up w w'):Pw wS km hs M p w':=by
 obtain ⟨L,h1,h2⟩:=h.mp
 exact ⟨h.up.trans k,Nat.lt_of_lt_of_le h.kn k.next,L,mapAt_up h1 k h.kn,h2⟩
theorem can_hour {vs:List HVn} {h:HHd} {v:HVn} {ho k:Int} (hv:vnB v=true) (hc:canH h v ho k=true):0≤ho∧ho < 12:=by
 simp only [vnB,hrsB,inH,Bool.and_eq_true,decide_eq_true_eq] at hv
 simp only [canH,Bool.and_eq_true,decide_eq_true_eq] at hc
 omega
section
variable {ov:Ov} {vs:List HVn} {hs:List HHd} {fs:List (List (Int × Int))} {vv hv fv v5:Value} {wS:AW} {X km:Nat}
set_option maxHeartbeats 1000000 in
theorem part83b (M:Nat) (h98:HasP ov 98 S98.F) (h72:HasP ov 72 S72.F) (h99:∀ args w,ov 99 args w=none) (h81:HasP ov 81 S81.F) (hS:SeaV wS vv hv fv vs hs fs) (hR:RowsV hnP wS v5 (hs.map fun h=>(h,vv))) (hX:X < wS.next) (gX:wS.heap.get X=some (.cells [vv,hv,fv] 26 false)) (hB:seaB vs hs fs=true) (hkl:wS.next≤km) (hlim:wS.lim≤wS.next)
  (p:List HJb) (j:HJb) (hU:UseOk hs p) (w:AW) (hP:Pw wS km hs fs.length p w) (J:Nat) (gJ:w.heap.get J=some (.cells (jbC j) 67 false)) (hJ:J < w.next) (hJk:¬ J=km) (v1 v16 v17 v18:Value) (t:Tm) (t1:tget t 1=v1) (t2:tget t 2=.pointer (some ⟨X,0,none⟩)) (t5:tget t 5=v5) (t6:tget t 6=.map (some km)) (t8:tget t 8=.pointer (some ⟨J,0,none⟩)) (t16:tget t 16=v16) (t17:tget t 17=v17) (t18:tget t 18=v18) (Q:Ex→Tm→AW→Prop)
  (hbad:∀ t w,tk2 vs hs fs.length p j=false→tget t 4=.bool false→Q .ret t w)
  (hgood:∀ t w,tk2 vs hs fs.length p j=true→Pw wS km hs fs.length (p++[j]) w→tget t 1=v1→tget t 2=.pointer (some ⟨X,0,none⟩)→tget t 5=v5→tget t 6=.map (some km)→tget t 16=v16→tget t 17=v17→tget t 18=v18→Q .normal t w):wp (exM Try.prog (run Try.prog ov (M + 2)) mc83_l0_b2 t w) Q:=by
 obtain ⟨b1,b2,b3,b4,b5,b6,b7,b8⟩:=sea_parts hB
 have hS':=hS.up hP.up
 obtain ⟨nv,nh,nf⟩:=hS'.nj
 have gX':=(hP.up.at hX).trans gX
 have r98:=S98.call (P:=Try.prog) h98 (m:=M + 1) (w:=w) ⟨vv,hv,fv,vs,hs,fs,j,rfl,hS',b1,by omega,b5,rfl⟩
 cases k1:jobB vs.length hs.length fs.length j with
 | false =>
  have e:tk2 vs hs fs.length p j=false:=by simp [tk2,k1]
  rw [k1] at r98
  obtain ⟨mo,ho,ha,vi,ma⟩:=j
  simp only [jbC] at gJ r98
  simp [mc83_l0_b2,t2,t5,t6,t8,gX',gJ,nv,nh,nf,r98]
  exact hbad _ _ e (by simp)
 | true =>
  rw [k1] at r98
  have k1':=k1
  simp only [jobB,decide_eq_true_eq] at k1'
  obtain ⟨m,hm⟩:∃ m:Nat,j.mo=(m:Int):=⟨j.mo.toNat,by omega⟩
  obtain ⟨h,hh⟩:∃ h:Nat,j.ha=(h:Int):=⟨j.ha.toNat,by omega⟩
  obtain ⟨k,hk⟩:∃ k:Nat,j.vi=(k:Int):=⟨j.vi.toNat,by omega⟩
  obtain ⟨x,hx⟩:=lt_get (show h < hs.length by omega)
  obtain ⟨v,hv'⟩:=lt_get (show k < vs.length by omega)
  have hRx:(hs.map fun h=>(h,vv))[h]?=some (x,vv):=by rw [List.getElem?_map,hx]; rfl
  obtain ⟨q,iq,lq,_,nq⟩:=getR un84 sz87 hnP_length (hR.up hP.up) hh hRx
  have r72:=S72.call (P:=Try.prog) h72 (m:=M + 1) (w:=w) ⟨x,vv,vs,v,j.ho,k,rfl,hS'.v,hv',rfl⟩
  have et:tk2 vs hs fs.length p j=(canH x v j.ho j.vi && (decide (1≤j.ma) && (decide (j.ma≤x.da - dayS p j.mo j.ha) && decide (j.ma≤x.ra - hrS p j.mo j.ha j.ho)))):=by
   simp [tk2,k1,hh,hk,hx,hv']
  rw [← hk] at r72
  simp only [hnP,hnC] at lq r72
  cases k2:canH x v j.ho j.vi with
  | false =>
   rw [k2] at r72 et
   obtain ⟨mo,ho,ha,vi,ma⟩:=j
   simp only at iq r72
   simp only [jbC] at gJ r98
   simp [mc83_l0_b2,t2,t5,t6,t8,gX',gJ,nv,nh,nf,r98,iq,lq,r72]
   exact hbad _ _ et (by simp)
  | true =>
   rw [k2] at r72 et
   obtain ⟨ho0,ho1⟩:=can_hour (vs:=vs) (b6 v (List.mem_of_getElem? hv')) k2
   obtain ⟨o,ho⟩:∃ o:Nat,j.ho=(o:Int):=⟨j.ho.toNat,by omega⟩
   obtain ⟨L,hML,hAb⟩:=hP.mp
   obtain ⟨l1,l2⟩:=hAb m h x (by omega) hx
   have l2:=l2 o (by omega)
   have hxb:=b7 x (List.mem_of_getElem? hx)
   simp only [hhB,inH,Bool.and_eq_true,decide_eq_true_eq] at hxb
   have d1:=hU.day m h x hx
   have d2:=hU.dayPos m h
   have d3:=hU.hr m h o x hx
   have d4:=hU.hrPos m h o
   have hwl:w.lim≤km:=by rw [hP.up.lim]; omega
   obtain ⟨_,w9,c99,rfl,K9,M9⟩:=call99 (ov:=ov) M h99 h81 j w hML hP.kn hwl (x:=x.da - dayS p m h) (y:=x.ra - hrS p m h o) (by rw [hm,hh]; exact l1) (by rw [hm,hh,ho]; exact l2) (by omega) (by omega) (by omega)
   have etk:tk2 vs hs fs.length p j=tkB j (x.da - dayS p m h) (x.ra - hrS p m h o):=by
    rw [et,hm,hh,ho,Bool.eq_iff_iff]
    simp only [tkB,Bool.true_and,Bool.and_eq_true,decide_eq_true_eq]
    omega
   have uS9:Up wS w9:=⟨fun b hb=>by rw [K9.keep b (by have:=hP.up.next; omega) (by omega)]; exact hP.up.at hb,by have:=hP.up.next; have:=K9.next; omega,by rw [K9.lim,hP.up.lim]⟩
   cases k3:tkB j (x.da - dayS p m h) (x.ra - hrS p m h o) with
   | false =>
    rw [k3] at c99 etk
    obtain ⟨mo,ho',ha,vi,ma⟩:=j
    simp only at iq r72
    simp only [jbC] at gJ r98 c99
    simp [mc83_l0_b2,t2,t5,t6,t8,gX',gJ,nv,nh,nf,r98,iq,lq,r72,c99]
    exact hbad _ _ etk (by simp)
   | true =>
    rw [k3] at c99 etk M9
    rw [if_pos rfl] at M9
    have hP9:Pw wS km hs fs.length (p++[j]) w9:=by
     refine ⟨uS9,by have:=hP.kn; have:=K9.next; omega,_,M9,?_⟩
     have:=hAb.push (m:=m) (h:=h) (o:=o) (by omega) hx (by omega) j hm hh ho
     rw [hm,hh,ho]
     exact this
    obtain ⟨mo,ho',ha,vi,ma⟩:=j
    simp only at iq r72
    simp only [jbC] at gJ r98 c99
    simp [mc83_l0_b2,t2,t5,t6,t8,gX',gJ,nv,nh,nf,r98,iq,lq,r72,c99]
    exact hgood _ _ etk hP9 (by simp [t1]) (by simp [t2]) (by simp [t5]) (by simp [t6]) (by simp [t16]) (by simp [t17]) (by simp [t18])
end
theorem ord_take {l:List HJb} {i:Nat} {y x:HJb} (h:l[i]?=some y):ordB (l.take (i + 1)) x=ltJ y x:=by
 rw [List.take_add_one,h]
 simp [ordB]
theorem take_push {α:Type} {l:List α} {i:Nat} {x:α} (h:l[i]?=some x):l.take (i + 1)=l.take i++[x]:=by
 rw [List.take_add_one,h]; rfl
theorem drop_cons {α:Type} {l:List α} {i:Nat} {x:α} (h:l[i]?=some x):l.drop i=x::l.drop (i + 1):=by
 obtain ⟨hi,e⟩:=List.getElem?_eq_some_iff.1 h
 rw [List.drop_eq_getElem_cons hi,e]
section
variable {ov:Ov} {vs:List HVn} {hs:List HHd} {fs:List (List (Int × Int))} {vv hv fv v5 pv:Value} {wS:AW} {X km:Nat} {l:List HJb}
set_option maxHeartbeats 1000000 in
theorem part83a (M:Nat) (h92:HasP ov 92 S92.F) (h93:∀ args w,ov 93 args w=none) (hP:RowsV jbC wS pv l) (i:Nat) (x:HJb) (hx:l[i]?=some x) (hlen:l.length≤2048) (w:AW) (hu:Up wS w) (hle:w.lim≤w.next) (J:Nat) (gJ:w.heap.get J=some (.cells (jbC x) 67 false)) (hJ:J < w.next) (t:Tm) (Q:Ex→Tm→AW→Prop)
  (t1:tget t 1=pv) (t7:tget t 7=.int .i64 (i:Nat)) (t8:tget t 8=.pointer (some ⟨J,0,none⟩)) (v2 v5 v6 v16 v17 v18:Value) (t2:tget t 2=v2) (t5:tget t 5=v5) (t6:tget t 6=v6) (t16:tget t 16=v16) (t17:tget t 17=v17) (t18:tget t 18=v18)
  (hbad:∀ t w,ordB (l.take i) x=false→tget t 4=.bool false→Q .ret t w)
  (hgood:∀ t w',ordB (l.take i) x=true→Up w w'→tget t 1=pv→tget t 2=v2→tget t 5=v5→tget t 6=v6→tget t 8=.pointer (some ⟨J,0,none⟩)→tget t 16=v16→tget t 17=v17→tget t 18=v18→wp (exM Try.prog (run Try.prog ov (M + 2)) mc83_l0_b2 t w') Q):wp (exM Try.prog (run Try.prog ov (M + 2)) mc83_l0_b1 t w) Q:=by
 rcases Nat.eq_zero_or_pos i with h0 | h0
 ·subst h0
  have e:ordB (l.take 0) x=true:=by simp [ordB]
  simp [mc83_l0_b1,t1,t7,t8]
  exact hgood _ _ e (Up.refl w) (by simp [t1]) (by simp [t2]) (by simp [t5]) (by simp [t6]) (by simp [t8]) (by simp [t16]) (by simp [t17]) (by simp [t18])
 ·obtain ⟨k,rfl⟩:∃ k,i=k + 1:=⟨i - 1,by omega⟩
  have hlt:=(List.getElem?_eq_some_iff.1 hx).1
  obtain ⟨y,hy⟩:=lt_get (show k < l.length by omega)
  rw [ord_take hy] at hbad hgood
  obtain ⟨q,iq,lq,_,nq⟩:=getR un39 sz67 jbC_length (hP.up hu) rfl hy
  obtain ⟨v31,w2,c1,r1,j1,u1⟩:=call93 (ov:=ov) (M + 1) h93 y w hle
  have hle2:w2.lim≤w2.next:=by rw [u1.lim]; have:=u1.next; omega
  obtain ⟨v33,w3,c2,r2,j2,u2⟩:=call93 (ov:=ov) (M + 1) h93 x w2 hle2
  have r92:=S92.call (P:=Try.prog) h92 (m:=M + 1) (w:=w3) ⟨v31,v33,[y.mo,y.ho,y.ha,y.vi],[x.mo,x.ho,x.ha,x.vi],rfl,r1.up u2,r2,rfl,by simp,rfl⟩
  have gJ2:=(u1.at hJ).trans gJ
  have hw1:IntKind.wrap .i64 (((k + 1:Nat):Int) - 1)=(k:Int):=by
   rw [show (((k + 1:Nat):Int) - 1)=(k:Int) by omega]; exact wrap64_in (by omega) (by omega)
  have hpos:(0:Int) < ((k + 1:Nat):Int):=by omega
  have hwk:IntKind.wrap .i64 (k:Int)=(k:Int):=wrap64_in (by omega) (by omega)
  have el:=lex_ltJ y x
  obtain ⟨z,hz⟩:∃ z,lexH [y.mo,y.ho,y.ha,y.vi] [x.mo,x.ho,x.ha,x.vi]=z:=⟨_,rfl⟩
  rw [hz] at el r92
  obtain ⟨y1,y2,y3,y4,y5⟩:=y
  obtain ⟨x1,x2,x3,x4,x5⟩:=x
  simp only [jbC] at lq gJ gJ2 c1 c2
  by_cases hzn:0≤z
  ·have e:ltJ ⟨y1,y2,y3,y4,y5⟩ ⟨x1,x2,x3,x4,x5⟩=false:=by rw [el]; simp; omega
   have hw1':IntKind.wrap .i64 ((k:Int) + 1 - 1)=(k:Int):=by
    rw [show ((k:Int) + 1 - 1)=(k:Int) by omega]; exact wrap64_in (by omega) (by omega)
   have hpos':(0:Int) < (k:Int) + 1:=by omega
   simp [mc83_l0_b1,t1,t7,t8,hpos,hpos',hw1,hw1',hwk,iq,lq,gJ,gJ2,c1,c2,j1,j2,r92,hzn,smi5]
   exact hbad _ _ e (by simp)
  ·have e:ltJ ⟨y1,y2,y3,y4,y5⟩ ⟨x1,x2,x3,x4,x5⟩=true:=by rw [el]; simp; omega
   have hw1':IntKind.wrap .i64 ((k:Int) + 1 - 1)=(k:Int):=by
    rw [show ((k:Int) + 1 - 1)=(k:Int) by omega]; exact wrap64_in (by omega) (by omega)
   have hpos':(0:Int) < (k:Int) + 1:=by omega
   simp [mc83_l0_b1,t1,t7,t8,hpos,hpos',hw1,hw1',hwk,iq,lq,gJ,gJ2,c1,c2,j1,j2,r92,hzn,smi5]
   exact hgood _ _ e (u1.trans u2) (by simp [t1]) (by simp [t2]) (by simp [t5]) (by simp [t6]) (by simp [t8]) (by simp [t16]) (by simp [t17]) (by simp [t18])
end
end Go.Proofs.Ytiokkkjahkhbfaa.walk
