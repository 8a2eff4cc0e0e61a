/- Part of a proof: see the text with the theorem. -/
import Derived.Test.YtiokkkjahkhbfaaUc
import Derived.Test.YtiokkkjahkhbfaaUb
set_option linter.all false
namespace Go.Proofs.Ytiokkkjahkhbfaa.walk
open Go Go.Sh
set_option maxRecDepth 100000
def partG {α:Type} (z:α) (L:List α) (i:Nat):List α:=L.take i++List.replicate (L.length - i) z
theorem partG_zero {α:Type} (z:α) (L:List α):partG z L 0=List.replicate L.length z:=by simp [partG]
theorem partG_full {α:Type} (z:α) (L:List α):partG z L L.length=L:=by simp [partG]
theorem partG_length {α:Type} {z:α} {L:List α} {i:Nat} (h:i≤L.length):(partG z L i).length=L.length:=by simp [partG]; omega
theorem partG_set {α:Type} {z:α} {L:List α} {i:Nat} {x:α} (h:L[i]?=some x):(partG z L i).set i x=partG z L (i + 1):=by
 have hi:=(List.getElem?_eq_some_iff.1 h).1
 unfold partG
 rw [List.take_add_one,h]
 obtain ⟨k,hk⟩:∃ k,L.length - i=k + 1:=⟨L.length - i - 1,by omega⟩
 rw [hk,List.replicate_succ,List.set_append_right _ _ (by rw [List.length_take]; omega)]
 rw [show i - (L.take i).length=0 by rw [List.length_take]; omega,List.set_cons_zero,show L.length - (i + 1)=k by omega]
 simp
def hnP (p:HHd × Value):List Value:=hnC p.1 p.2
@[simp] theorem hnP_length (p:HHd × Value):(hnP p).length=6:=rfl
def zH:HHd × Value:=(⟨0,0,0,0,0⟩,.slice none 0 0)
theorem mk84 (n:Nat) (hn:n≤1000) (w:AW):makeSliceA Try.prog w 84 (.int .i64 (n:Int)) (.int .i64 (n:Int))=.val (.slice (some ⟨w.next,0,none⟩) n n) ⟨w.heap.put w.next (some (.cells ((List.replicate n zH).flatMap hnP) 87 false)),w.next + 1,w.lim⟩:=by
 rw [make_eq (e:=87) (z:=.agg ⟨hnP zH⟩) (by kernel_rfl) (by kernel_rfl) (by kernel_rfl) n hn w,← repl_flat]; rfl
theorem call43 {ov:Ov} (M:Nat) (ho:∀ args w,ov 43 args w=none) (vs:List HVn) (hs:List HHd) (fs:List (List (Int × Int))) (hh4:hs.length≤4) (vv hv fv:Value) (w:AW) (hl:w.lim≤w.next) (hS:SeaV w vv hv fv vs hs fs) :
  ∃ v w',(run Try.prog ov (M + 1)).call 43 [.agg ⟨[vv,hv,fv]⟩] w .none=.ok (.ret v) w' .none∧RowsV hnP w' v (hs.map fun h=>(h,vv))∧Up w w':=by
 refine call_wp text43 (by simp) (ho _ _) ?_
 obtain ⟨nv,nh,nf⟩:=hS.nj
 obtain ⟨va,vc,hvv⟩:=hS.v.len
 have hl2:=fun w2=>len23V (w':=w2) hS.h
 have hmk:=fun w=>mk84 hs.length (by omega) w
 obtain ⟨R,hR⟩:∃ R:List (HHd × Value),R=hs.map fun h=>(h,vv):=⟨_,rfl⟩
 have hRl:R.length=hs.length:=by rw [hR,List.length_map]
 rw [← hR]
 subst hvv
 simp [mc43,cellsOf_agg,nv,nh,nf,hl2,hmk]
 refine wp_seqX (wp_blockX (wp_rounds (fun i t w2=>Up w w2∧w.next + 2≤w2.next∧w2.heap.get w.next=some (.cells [.slice va vs.length vc,hv,fv] 26 false)∧w2.heap.get (w.next + 1)=some (.cells ((partG zH R i).flatMap hnP) 87 false)∧tget t 1=.pointer (some ⟨w.next,0,none⟩)∧tget t 3=.slice (some ⟨w.next + 1,0,none⟩) hs.length hs.length∧tget t 11=hv∧tget t 12=.int .i64 (hs.length:Nat)∧tget t 13=.int .i64 (i:Nat)∧i≤hs.length) 20 (by decide) ?_ ?_))
 ·refine ⟨((Up.refl w).add _).put (Nat.le_succ _) (Nat.le_succ _),by show w.next + 2≤w.next + 1 + 1; omega,by simp,?_,by simp,by simp,by simp,by simp,by simp,Nat.zero_le _⟩
  rw [partG_zero,hRl]; simp
 ·rintro i t w2 ⟨hu,hn,gX,gB,t1,t3,t11,t12,t13,hi⟩
  have hlm:=hu.lim
  by_cases hlt:i < hs.length
  ·obtain ⟨x,hx⟩:=lt_get hlt
   have hRx:R[i]?=some (x,.slice va vs.length vc):=by rw [hR,List.getElem?_map,hx]; rfl
   obtain ⟨p,hia,hld,_,hpb⟩:=getR un23 sz77 hhC_length (hS.up hu).h rfl hx
   have hw1:IntKind.wrap .i64 ((i:Int) + 1)=(i:Int) + 1:=wrap64_in (by omega) (by omega)
   have hle:w2.lim≤w2.next:=by omega
   have n1:¬ w.next=w2.next:=by omega
   have n2:¬ w.next + 1=w2.next:=by omega
   have hle2:w2.lim≤w.next + 1:=by omega
   have hia2:=fun w'=>ia84 w' ⟨w.next + 1,0,none⟩ hs.length hs.length .i64 i hlt
   have hcl:((partG zH R i).flatMap hnP).length=hs.length * 6:=by rw [flat_length hnP_length,partG_length (by omega),hRl]
   have hfit:i * 6 + 6≤((partG zH R i).flatMap hnP).length:=by rw [hcl]; omega
   have hst:=flat_set hnP_length (partG zH R i) i (x,.slice va vs.length vc) (by rw [partG_length (by omega)]; omega)
   rw [partG_set hRx] at hst
   obtain ⟨cs,hcs⟩:∃ cs,cs=(partG zH R i).flatMap hnP:=⟨_,rfl⟩
   rw [← hcs] at gB hfit hst
   obtain ⟨a0,a1,a2,a3,a4⟩:=x
   simp only [hhC] at hld
   simp only [hnP,hnC] at hst
   simp [mc43_l0,t1,t3,t11,t12,t13,hlt,hia,hld,hle,hle2,n1,n2,gX,nh,nf,gB,hia2,cellsOf_agg,hfit,hw1]
   refine ⟨by omega,?_,by omega,?_,by omega⟩
   ·exact (((hu.add _).put hu.next (Nat.le_refl _)).put (Nat.le_succ _) (Nat.le_refl _))
   ·simpa [hnP,hnC] using hst
  ·have hi':i=hs.length:=by omega
   have hRf:partG zH R i=R:=by rw [hi',← hRl]; exact partG_full _ _
   rw [hRf] at gB
   simp [mc43_l0,t1,t3,t12,t13,hi',tupV]
   refine ⟨.inr ⟨w.next + 1,0,none,hs.length,by rw [hRl],⟨[],[],87,false,by simpa using gB,rfl⟩,by omega⟩,hu⟩
def FullM (hs:List HHd) (L:List (Sf × Int)) (m h:Nat):Prop:=∀ (m' h':Nat) x,hs[h']?=some x→(m' < m∨(m'=m∧h' < h))→lookK L ((m':Int),(h':Int), -1)=some x.da∧∀ o:Nat,o < 12→lookK L ((m':Int),(h':Int),(o:Int))=some x.ra
theorem key_ne {a b c d:Nat} {x y:Int} (h:a ≠ c∨b ≠ d∨x ≠ y):¬ (((a:Int),(b:Int),x):Sf)=((c:Int),(d:Int),y):=by
 intro e
 injection e with e1 e
 injection e with e2 e3
 have:=Int.ofNat.inj e1
 have:=Int.ofNat.inj e2
 omega
theorem FullM.upd {hs:List HHd} {L:List (Sf × Int)} {m h:Nat} (H:FullM hs L m h) (o z:Int):FullM hs (updK L ((m:Int),(h:Int),o) z) m h:=fun m' h' x hx hlt=>by
 obtain ⟨a,b⟩:=H m' h' x hx hlt
 refine ⟨?_,fun o' ho'=>?_⟩
 ·rw [lookK_upd,if_neg (key_ne (by omega))]; exact a
 ·rw [lookK_upd,if_neg (key_ne (by omega))]; exact b o' ho'
theorem FullM.next {hs:List HHd} {L:List (Sf × Int)} {m h:Nat} (H:FullM hs L m h) {x:HHd} (hx:hs[h]?=some x) (h1:lookK L ((m:Int),(h:Int), -1)=some x.da) (h2:∀ o:Nat,o < 12→lookK L ((m:Int),(h:Int),(o:Int))=some x.ra):FullM hs L m (h + 1):=fun m' h' y hy hlt=>by
 by_cases e:m'=m∧h'=h
 ·obtain ⟨rfl,rfl⟩:=e
  rw [hx] at hy; cases hy
  exact ⟨h1,h2⟩
 ·exact H m' h' y hy (by omega)
theorem FullM.row {hs:List HHd} {L:List (Sf × Int)} {m:Nat} (H:FullM hs L m hs.length):FullM hs L (m + 1) 0:=fun m' h' y hy hlt=>by
 have:=(List.getElem?_eq_some_iff.1 hy).1
 exact H m' h' y hy (by omega)
section
variable {ov:Ov} {vs:List HVn} {hs:List HHd} {fs:List (List (Int × Int))} {vv hv fv:Value} {w0:AW} {X km:Nat}
structure Gw (w0:AW) (X km:Nat) (vv hv fv:Value) (L:List (Sf × Int)) (w:AW):Prop where
 up:Up w0 w
 gx:w.heap.get X=some (.cells [vv,hv,fv] 26 false)
 mp:MapAt shC inV w km L
 kl:w0.next≤km
 kn:km < w.next
 xn:X < w.next
 ne:¬ X=km
 lm:w.lim≤w0.next
theorem loop97c (M:Nat) (x:HHd) (m h A:Nat) (L0:List (Sf × Int)) (hF:FullM hs L0 m h) (hd:lookK L0 ((m:Int),(h:Int), -1)=some x.da) (w:AW) (G:Gw w0 X km vv hv fv L0 w) (hA:w.heap.get A=some (.cells (hhC x) 77 false)) (hAn:¬ A=km) (v1 v11 v12 v16 v17 v18:Value) (t:Tm) (t1:tget t 1=v1) (t3:tget t 3=.map (some km)) (t4:tget t 4=.int .i64 (m:Nat)) (t5:tget t 5=.int .i64 (h:Nat)) (t6:tget t 6=.pointer (some ⟨A,0,none⟩)) (t11:tget t 11=v11) (t12:tget t 12=v12) (t16:tget t 16=v16) (t17:tget t 17=v17) (t18:tget t 18=v18) (t29:tget t 29=.int .i64 0) (Q:Ex→Tm→AW→Prop)
  (hQ:∀ t w L,Gw w0 X km vv hv fv L w→FullM hs L m h→lookK L ((m:Int),(h:Int), -1)=some x.da→(∀ o:Nat,o < 12→lookK L ((m:Int),(h:Int),(o:Int))=some x.ra)→tget t 1=v1→tget t 3=.map (some km)→tget t 4=.int .i64 (m:Nat)→tget t 11=v11→tget t 12=v12→tget t 16=v16→tget t 17=v17→tget t 18=v18→Q (.exit 4) t w):wp (exM Try.prog (run Try.prog ov M) (.loop mc97_l2) t w) Q:=by
 refine wp_rounds (fun i t w=>(∃ L,Gw w0 X km vv hv fv L w∧FullM hs L m h∧lookK L ((m:Int),(h:Int), -1)=some x.da∧∀ o:Nat,o < i→lookK L ((m:Int),(h:Int),(o:Int))=some x.ra)∧w.heap.get A=some (.cells (hhC x) 77 false)∧tget t 1=v1∧tget t 3=.map (some km)∧tget t 4=.int .i64 (m:Nat)∧tget t 5=.int .i64 (h:Nat)∧tget t 6=.pointer (some ⟨A,0,none⟩)∧tget t 11=v11∧tget t 12=v12∧tget t 16=v16∧tget t 17=v17∧tget t 18=v18∧tget t 29=.int .i64 (i:Nat)∧i≤12) 20 (by decide) ⟨⟨L0,G,hF,hd,fun o ho=>absurd ho (Nat.not_lt_zero _)⟩,hA,t1,t3,t4,t5,t6,t11,t12,t16,t17,t18,by simpa using t29,Nat.zero_le _⟩ ?_
 clear t1 t3 t4 t5 t6 t11 t12 t16 t17 t18 t29 hA G hF hd t w
 rintro i t w ⟨⟨L,G,hF,hd,hr⟩,hA,t1,t3,t4,t5,t6,t11,t12,t16,t17,t18,t29,hi⟩
 by_cases hlt:i < 12
 ·have hlt':(i:Int) < 12:=by omega
  have hw1:IntKind.wrap .i64 ((i:Int) + 1)=(i:Int) + 1:=wrap64_in (by omega) (by omega)
  have hup:=update_k (P:=Try.prog) (s:=149) map149 sh_ok G.mp (by have:=G.lm; have:=G.kl; omega) ((m:Int),(h:Int),(i:Int)) x.ra
  obtain ⟨a0,a1,a2,a3,a4⟩:=x
  have hup:mapUpdateA Try.prog w 149 (.map (some km)) (.agg ⟨[.int .i64 (m:Int),.int .i64 (h:Int),.int .i64 (i:Int)]⟩) (.int .i64 a3)=_:=hup
  simp only [hhC] at hA
  simp [mc97_l2,t1,t3,t4,t5,t6,t29,hlt,hlt',hA,hup,hw1]
  refine ⟨by omega,⟨updK L ((m:Int),(h:Int),(i:Int)) a3,⟨G.up.put G.kl (Nat.le_refl _),by show (w.heap.put km _).get X=_; rw [get_put,if_neg G.ne]; exact G.gx,by unfold MapAt; simp,G.kl,G.kn,G.xn,G.ne,G.lm⟩,hF.upd _ _,?_,fun o ho=>?_⟩,?_,t11,t12,t16,t17,t18,by omega⟩
  ·rw [lookK_upd,if_neg (key_ne (by omega))]; exact hd
  ·rw [lookK_upd]
   by_cases e:o=i
   ·subst e; rw [if_pos rfl]
   ·rw [if_neg (key_ne (by omega))]; exact hr o (by omega)
  ·simp [hAn,hhC,hA]
 ·have hi':i=12:=by omega
  subst hi'
  simp [mc97_l2,t29]
  exact hQ _ _ L G hF hd hr (by simp [t1]) (by simp [t3]) (by simp [t4]) (by simp [t11]) (by simp [t12]) (by simp [t16]) (by simp [t17]) (by simp [t18])
end
section
variable {ov:Ov} {vs:List HVn} {hs:List HHd} {fs:List (List (Int × Int))} {vv hv fv:Value} {w0:AW} {X km:Nat}
theorem loop97b (M:Nat) (hh4:hs.length≤4) (hS:SeaV w0 vv hv fv vs hs fs) (m:Nat) (L0:List (Sf × Int)) (hF:FullM hs L0 m 0) (w:AW) (G:Gw w0 X km vv hv fv L0 w) (v1 v11 v12:Value) (t:Tm) (t1:tget t 1=v1) (t3:tget t 3=.map (some km)) (t4:tget t 4=.int .i64 (m:Nat)) (t11:tget t 11=v11) (t12:tget t 12=v12) (t16:tget t 16=hv) (t17:tget t 17=.int .i64 (hs.length:Nat)) (t18:tget t 18=.int .i64 0) (Q:Ex→Tm→AW→Prop)
  (hQ:∀ t w L,Gw w0 X km vv hv fv L w→FullM hs L (m + 1) 0→tget t 1=v1→tget t 3=.map (some km)→tget t 11=v11→tget t 12=v12→Q (.exit 2) t w):wp (exM Try.prog (run Try.prog ov M) (.loop mc97_l1) t w) Q:=by
 refine wp_rounds (fun i t w=>(∃ L,Gw w0 X km vv hv fv L w∧FullM hs L m i)∧tget t 1=v1∧tget t 3=.map (some km)∧tget t 4=.int .i64 (m:Nat)∧tget t 11=v11∧tget t 12=v12∧tget t 16=hv∧tget t 17=.int .i64 (hs.length:Nat)∧tget t 18=.int .i64 (i:Nat)∧i≤hs.length) 20 (by decide) ⟨⟨L0,G,hF⟩,t1,t3,t4,t11,t12,t16,t17,by simpa using t18,Nat.zero_le _⟩ ?_
 clear t1 t3 t4 t11 t12 t16 t17 t18 G hF t w
 rintro i t w ⟨⟨L,G,hF⟩,t1,t3,t4,t11,t12,t16,t17,t18,hi⟩
 by_cases hlt:i < hs.length
 ·have hw1:IntKind.wrap .i64 ((i:Int) + 1)=(i:Int) + 1:=wrap64_in (by omega) (by omega)
  obtain ⟨x,hx⟩:=lt_get hlt
  obtain ⟨p,hia,hld,_,hpb⟩:=getR un23 sz77 hhC_length (hS.up G.up).h rfl hx
  have hle:w.lim≤w.next:=by have:=G.lm; have:=G.up.next; omega
  have hx':=hx
  obtain ⟨w1,hw1e⟩:∃ w1:AW,w1=⟨(w.heap.put w.next (some (.cells [.int .i64 0,.int .i64 0,.int .i64 0,.int .i64 0,.int .i64 0] 77 false))).put w.next (some (.cells (hhC x) 77 false)),w.next + 1,w.lim⟩:=⟨_,rfl⟩
  have hne:¬ km=w.next:=by have:=G.kn; omega
  have hXn:¬ X=w.next:=by have:=G.xn; omega
  have G1:Gw w0 X km vv hv fv L w1:=by
   rw [hw1e]
   exact ⟨(G.up.add _).put G.up.next (Nat.le_refl _),by simp [hXn,G.gx],by have:=G.mp; unfold MapAt at this ⊢; simp [hne,this],G.kl,by show km < w.next + 1; have:=G.kn; omega,by show X < w.next + 1; have:=G.xn; omega,G.ne,G.lm⟩
  have gA:w1.heap.get w.next=some (.cells (hhC x) 77 false):=by rw [hw1e]; simp
  have hup:=update_k (P:=Try.prog) (s:=149) map149 sh_ok G1.mp (by have:=G1.lm; have:=G1.kl; omega) ((m:Int),(i:Int), -1) x.da
  have G2:Gw w0 X km vv hv fv (updK L ((m:Int),(i:Int), -1) x.da) ⟨w1.heap.put km (some (.map (entsK shC inV 0 (updK L ((m:Int),(i:Int), -1) x.da)) (updK L ((m:Int),(i:Int), -1) x.da).length)),w1.next,w1.lim⟩ :=
   ⟨G1.up.put G1.kl (Nat.le_refl _),by show (w1.heap.put km _).get X=_; rw [get_put,if_neg G1.ne]; exact G1.gx,by unfold MapAt; simp,G1.kl,G1.kn,G1.xn,G1.ne,G1.lm⟩
  have key:=fun t=>loop97c (ov:=ov) (hs:=hs) (vv:=vv) (hv:=hv) (fv:=fv) (w0:=w0) (X:=X) (km:=km) M x m i w.next _ (hF.upd (-1) x.da) (by rw [lookK_upd,if_pos rfl]) _ G2 (by show (w1.heap.put km _).get w.next=_; rw [get_put,if_neg (fun e=>hne e.symm)]; exact gA) (fun e=>hne e.symm) v1 v11 v12 hv (.int .i64 (hs.length:Nat)) (.int .i64 (i:Nat)) t
  obtain ⟨a0,a1,a2,a3,a4⟩:=x
  have hup:mapUpdateA Try.prog w1 149 (.map (some km)) (.agg ⟨[.int .i64 (m:Int),.int .i64 (i:Int),.int .i64 (-1)]⟩) (.int .i64 a4)=_:=hup
  simp only [hhC] at hld gA hw1e
  rw [hw1e] at hup key
  simp [mc97_l1,t1,t3,t4,t16,t17,t18,hlt,hia,hld,hle,hup]
  refine wp_seqX (wp_blockX (wp_blockX (key _ ?_ ?_ ?_ ?_ ?_ ?_ ?_ ?_ ?_ ?_ ?_ _ ?_)))
  ·simp [t1]
  ·simp [t3]
  ·simp [t4]
  ·simp
  ·simp
  ·simp [t11]
  ·simp [t12]
  ·simp [t16]
  ·simp [t17]
  ·simp [t18]
  ·simp
  ·intro t w L' G' hF' hd' hr' s1 s3 s4 s11 s12 s16 s17 s18
   simp [s1,s3,s4,s11,s12,s16,s17,s18,hw1]
   exact ⟨by omega,⟨L',G',hF'.next hx' hd' hr'⟩,by omega⟩
 ·have hi':i=hs.length:=by omega
  subst hi'
  simp [mc97_l1,t17,t18]
  exact hQ _ _ L G hF.row (by simp [t1]) (by simp [t3]) (by simp [t11]) (by simp [t12])
theorem call97 {ov:Ov} (M:Nat) (ho:∀ args w,ov 97 args w=none) (vs:List HVn) (hs:List HHd) (fs:List (List (Int × Int))) (hh4:hs.length≤4) (hf6:fs.length≤6) (vv hv fv:Value) (w:AW) (hl:w.lim≤w.next) (hS:SeaV w vv hv fv vs hs fs) :
  ∃ v w',(run Try.prog ov (M + 1)).call 97 [.agg ⟨[vv,hv,fv]⟩] w .none=.ok (.ret v) w' .none∧∃ km L,v=.map (some km)∧MapAt shC inV w' km L∧w.next≤km∧km < w'.next∧FullM hs L fs.length 0∧Up w w':=by
 refine call_wp text97 (by simp) (ho _ _) ?_
 obtain ⟨nv,nh,nf⟩:=hS.nj
 have hl2:=fun w2=>len23V (w':=w2) hS.h
 have hl3:=fun w2=>len24V (w':=w2) hS.f
 simp [mc97,cellsOf_agg,nv,nh,nf,hl3]
 refine wp_seqX (wp_blockX (wp_rounds (fun i t w2=>(∃ L,Gw w w.next (w.next + 1) vv hv fv L w2∧FullM hs L i 0)∧tget t 1=.pointer (some ⟨w.next,0,none⟩)∧tget t 3=.map (some (w.next + 1))∧tget t 11=.int .i64 (fs.length:Nat)∧tget t 12=.int .i64 (i:Nat)∧i≤fs.length) 20 (by decide) ?_ ?_))
 ·refine ⟨⟨[],⟨((Up.refl w).add _).put (Nat.le_succ _) (Nat.le_succ _),by simp,by unfold MapAt; simp [entsK],Nat.le_succ _,by show w.next + 1 < w.next + 1 + 1; omega,by show w.next < w.next + 1 + 1; omega,by omega,hl⟩,fun m' h' x hx hlt=>by omega⟩,by simp,by simp,by simp,by simp,Nat.zero_le _⟩
 ·rintro i t w2 ⟨⟨L,G,hF⟩,t1,t3,t11,t12,hi⟩
  by_cases hlt:i < fs.length
  ·have hw1:IntKind.wrap .i64 ((i:Int) + 1)=(i:Int) + 1:=wrap64_in (by omega) (by omega)
   have gX:=G.gx
   simp [mc97_l0,t1,t3,t11,t12,hlt,gX,nv,nh,nf,hl2]
   refine wp_seqX (wp_blockX (wp_blockX (loop97b M hh4 hS i L hF w2 G (.pointer (some ⟨w.next,0,none⟩)) (.int .i64 (fs.length:Nat)) (.int .i64 (i:Nat)) _ ?_ ?_ ?_ ?_ ?_ ?_ ?_ ?_ _ ?_)))
   ·simp [t1]
   ·simp [t3]
   ·simp
   ·simp [t11]
   ·simp [t12]
   ·simp
   ·simp
   ·simp
   ·intro t w3 L' G' hF' s1 s3 s11 s12
    simp [s1,s3,s11,s12,hw1]
    exact ⟨by omega,⟨L',G',hF'⟩,by omega⟩
  ·have hi':i=fs.length:=by omega
   subst hi'
   simp [mc97_l0,t3,t11,t12,tupV]
   exact ⟨_,rfl,_,rfl,L,G.mp,G.kl,G.kn,hF,G.up⟩
end
noncomputable def mc83_l0_b2:MC:=.seq (.ops [⟨true,none,some 37,26,.load 26 (.tmp 2)⟩,⟨true,none,some 38,67,.load 67 (.tmp 8)⟩,⟨false,none,some 39,4,.call ⟨.value (.func 98),#[.tmp 37,.tmp 38],#[26,67]⟩⟩,⟨true,none,some 40,4,.unOp .not 4 (.tmp 39)⟩,⟨true,none,some 41,4,.move (.tmp 40)⟩,⟨true,some (41,false),some 42,84,.move (.tmp 5)⟩,⟨true,some (41,false),some 43,0,.fieldAddr 67 (.tmp 8) 2⟩,⟨true,some (41,false),some 44,3,.load 3 (.tmp 43)⟩,⟨true,some (41,false),some 45,0,.indexAddr 84 (.tmp 42) (.tmp 44)⟩,⟨true,some (41,false),some 46,87,.load 87 (.tmp 45)⟩,⟨true,some (41,false),some 47,0,.fieldAddr 67 (.tmp 8) 1⟩,⟨true,some (41,false),some 48,3,.load 3 (.tmp 47)⟩,⟨true,some (41,false),some 49,0,.fieldAddr 67 (.tmp 8) 3⟩,⟨true,some (41,false),some 50,3,.load 3 (.tmp 49)⟩,⟨false,some (41,false),some 51,4,.call ⟨.value (.func 72),#[.tmp 46,.tmp 48,.tmp 50],#[87,3,3]⟩⟩,⟨true,some (41,false),some 52,4,.unOp .not 4 (.tmp 51)⟩,⟨true,none,some 53,4,.pick (.tmp 41) (.const (.bool true)) (.tmp 52)⟩,⟨true,none,some 54,4,.move (.tmp 53)⟩,⟨true,some (54,false),some 55,149,.move (.tmp 6)⟩,⟨true,some (54,false),some 56,67,.load 67 (.tmp 8)⟩,⟨false,some (54,false),some 57,4,.call ⟨.value (.func 99),#[.tmp 55,.tmp 56],#[149,67]⟩⟩,⟨true,some (54,false),some 58,4,.unOp .not 4 (.tmp 57)⟩,⟨true,none,some 59,4,.pick (.tmp 54) (.const (.bool true)) (.tmp 58)⟩]) (.cond (.tmp 59) (.seq (.ops [⟨false,none,some 4,4,.assign (.const (.bool false))⟩]) (.ret)) (.skip))
noncomputable def mc83_l0_b1:MC:=.seq (.seq (.seq (.ops [⟨true,none,some 23,3,.move (.tmp 7)⟩]) (.seq (.ops [⟨true,none,some 24,4,.binOp .gtr 3 (.tmp 23) (.const (.int .i64 0)) 3⟩]) (.seq (.ops [⟨true,none,some 25,4,.move (.tmp 24)⟩]) (.seq (.ops [⟨true,some (25,true),some 26,39,.move (.tmp 1)⟩]) (.seq (.ops [⟨true,some (25,true),some 27,3,.move (.tmp 7)⟩]) (.seq (.ops [⟨true,some (25,true),some 28,3,.binOp .sub 3 (.tmp 27) (.const (.int .i64 1)) 3⟩]) (.seq (.ops [⟨true,some (25,true),some 29,0,.indexAddr 39 (.tmp 26) (.tmp 28)⟩]) (.seq (.ops [⟨true,some (25,true),some 30,67,.load 67 (.tmp 29)⟩]) (.seq (.ops [⟨true,some (25,true),some 32,67,.load 67 (.tmp 8)⟩]) (.seq (.ops [⟨false,some (25,true),some 31,42,.call ⟨.value (.func 93),#[.tmp 30],#[67]⟩⟩]) (.seq (.chk [⟨true,some (25,true),some 32,67,.load 67 (.tmp 8)⟩]) (.seq (.ops [⟨false,some (25,true),some 33,42,.call ⟨.value (.func 93),#[.tmp 32],#[67]⟩⟩]) (.seq (.ops [⟨false,some (25,true),some 34,3,.call ⟨.value (.func 92),#[.tmp 31,.tmp 33],#[42,42]⟩⟩]) (.seq (.ops [⟨true,some (25,true),some 35,4,.binOp .geq 3 (.tmp 34) (.const (.int .i64 0)) 3⟩]) (.seq (.ops [⟨true,none,some 36,4,.pick (.tmp 25) (.tmp 35) (.const (.bool false))⟩]) (.chk [])))))))))))))))) (.cond (.tmp 36) (.seq (.ops [⟨false,none,some 4,4,.assign (.const (.bool false))⟩]) (.ret)) (.skip))) mc83_l0_b2
theorem mc83_l0_eq:mc83_l0=.seq (.ops [⟨false,none,some 19,0,.binOp .lss 3 (.tmp 18) (.tmp 17) 3⟩]) (.seq (.cond (.tmp 19) (.skip) (.exit 0)) (.seq (.block 1 (.seq (.ops [⟨false,none,some 20,3,.move (.tmp 18)⟩,⟨false,none,some 21,0,.indexAddr 39 (.tmp 16) (.tmp 18)⟩,⟨false,none,some 22,67,.load 67 (.tmp 21)⟩,⟨false,none,some 8,0,.alloc 67⟩,⟨false,none,some 7,3,.assign (.tmp 20)⟩,⟨false,none,none,0,.store 67 (.tmp 8) (.tmp 22)⟩]) mc83_l0_b1)) (.ops [⟨false,none,some 60,3,.binOp .add 3 (.tmp 18) (.const (.int .i64 1)) 3⟩,⟨false,none,some 18,3,.move (.tmp 60)⟩]))):=rfl
def AbOk (hs:List HHd) (M:Nat) (L:List (Sf × Int)) (p:List HJb):Prop:=∀ (m h:Nat) x,m < M→hs[h]?=some x→lookK L ((m:Int),(h:Int), -1)=some (x.da - dayS p m h)∧∀ o:Nat,o < 12→lookK L ((m:Int),(h:Int),(o:Int))=some (x.ra - hrS p m h o)
theorem FullM.ab {hs:List HHd} {L:List (Sf × Int)} {M:Nat} (H:FullM hs L M 0):AbOk hs M L []:=fun m h x hm hx=>by
 obtain ⟨a,b⟩:=H m h x hx (.inl hm)
 refine ⟨by rw [a]; simp [dayS],fun o ho=>by rw [b o ho]; simp [hrS]⟩
theorem AbOk.push {hs:List HHd} {M:Nat} {L:List (Sf × Int)} {p:List HJb} (H:AbOk hs M L p) {m h o:Nat} {x:HHd} (hm:m < M) (hx:hs[h]?=some x) (ho:o < 12) (j:HJb) (e1:j.mo=m) (e2:j.ha=h) (e3:j.ho=o) :
  AbOk hs M (updK (updK L ((m:Int),(h:Int), -1) (x.da - dayS p m h - j.ma)) ((m:Int),(h:Int),(o:Int)) (x.ra - hrS p m h o - j.ma)) (p++[j]):=fun m' h' y hm' hy=>by
 obtain ⟨a,b⟩:=H m' h' y hm' hy
 refine ⟨?_,fun o' ho'=>?_⟩
 ·rw [lookK_upd,if_neg (key_ne (by omega)),lookK_upd,dayS_push]
  by_cases e:m'=m∧h'=h
  ·obtain ⟨rfl,rfl⟩:=e
   rw [hx] at hy; cases hy
   rw [if_pos rfl,if_pos ⟨e1,e2⟩,Int.sub_sub]
  ·rw [if_neg (key_ne (by omega)),a,if_neg (by omega),Int.add_zero]
 ·rw [lookK_upd,hrS_push]
  by_cases e:m'=m∧h'=h∧o'=o
  ·obtain ⟨rfl,rfl,rfl⟩:=e
   rw [hx] at hy; cases hy
   rw [if_pos rfl,if_pos ⟨e1,e2,e3⟩,Int.sub_sub]
  ·rw [if_neg (key_ne (by omega)),lookK_upd,if_neg (key_ne (by omega)),b o' ho',if_neg (by omega),Int.add_zero]
def tk2 (vs:List HVn) (hs:List HHd) (M:Nat) (p:List HJb) (j:HJb):Bool:=jobB vs.length hs.length M j && match hs[j.ha.toNat]?,vs[j.vi.toNat]? with
  | some h,some v=>canH h v j.ho j.vi && (decide (1≤j.ma) && (decide (j.ma≤h.da - dayS p j.mo j.ha) && decide (j.ma≤h.ra - hrS p j.mo j.ha j.ho)))
  | _,_=>false
theorem jst_eq (vs:List HVn) (hs:List HHd) (M:Nat) (p:List HJb) (j:HJb):jstB vs hs M p j=(ordB p j && tk2 vs hs M p j):=rfl
structure Pw (wS:AW) (km:Nat) (hs:List HHd) (M:Nat) (p:List HJb) (w:AW):Prop where
 up:Up wS w
 kn:km < w.next
 mp:∃ L,MapAt shC inV w km L∧AbOk hs M L p
theorem Pw.grow {wS:AW} {km:Nat} {hs:List HHd} {M:Nat} {p:List HJb} {w w':AW} (h:Pw wS km hs M p w) (k:Up w w'):Pw wS km hs M p w':=by
 obtain ⟨L,h1,h2⟩:=h.mp
 exact ⟨h.up.trans k,Nat.lt_of_lt_of_le h.kn k.next,L,mapAt_up h1 k h.kn,h2⟩
theorem can_hour {vs:List HVn} {h:HHd} {v:HVn} {ho k:Int} (hv:vnB v=true) (hc:canH h v ho k=true):0≤ho∧ho < 12:=by
 simp only [vnB,hrsB,inH,Bool.and_eq_true,decide_eq_true_eq] at hv
 simp only [canH,Bool.and_eq_true,decide_eq_true_eq] at hc
 omega
section
variable {ov:Ov} {vs:List HVn} {hs:List HHd} {fs:List (List (Int × Int))} {vv hv fv v5:Value} {wS:AW} {X km:Nat}
set_option maxHeartbeats 1000000 in
theorem part83b (M:Nat) (h98:HasP ov 98 S98.F) (h72:HasP ov 72 S72.F) (h99:∀ args w,ov 99 args w=none) (h81:HasP ov 81 S81.F) (hS:SeaV wS vv hv fv vs hs fs) (hR:RowsV hnP wS v5 (hs.map fun h=>(h,vv))) (hX:X < wS.next) (gX:wS.heap.get X=some (.cells [vv,hv,fv] 26 false)) (hB:seaB vs hs fs=true) (hkl:wS.next≤km) (hlim:wS.lim≤wS.next)
  (p:List HJb) (j:HJb) (hU:UseOk hs p) (w:AW) (hP:Pw wS km hs fs.length p w) (J:Nat) (gJ:w.heap.get J=some (.cells (jbC j) 67 false)) (hJ:J < w.next) (hJk:¬ J=km) (v1 v16 v17 v18:Value) (t:Tm) (t1:tget t 1=v1) (t2:tget t 2=.pointer (some ⟨X,0,none⟩)) (t5:tget t 5=v5) (t6:tget t 6=.map (some km)) (t8:tget t 8=.pointer (some ⟨J,0,none⟩)) (t16:tget t 16=v16) (t17:tget t 17=v17) (t18:tget t 18=v18) (Q:Ex→Tm→AW→Prop)
  (hbad:∀ t w,tk2 vs hs fs.length p j=false→tget t 4=.bool false→Q .ret t w)
  (hgood:∀ t w,tk2 vs hs fs.length p j=true→Pw wS km hs fs.length (p++[j]) w→tget t 1=v1→tget t 2=.pointer (some ⟨X,0,none⟩)→tget t 5=v5→tget t 6=.map (some km)→tget t 16=v16→tget t 17=v17→tget t 18=v18→Q .normal t w):wp (exM Try.prog (run Try.prog ov (M + 2)) mc83_l0_b2 t w) Q:=by
 obtain ⟨b1,b2,b3,b4,b5,b6,b7,b8⟩:=sea_parts hB
 have hS':=hS.up hP.up
 obtain ⟨nv,nh,nf⟩:=hS'.nj
 have gX':=(hP.up.at hX).trans gX
 have r98:=S98.call (P:=Try.prog) h98 (m:=M + 1) (w:=w) ⟨vv,hv,fv,vs,hs,fs,j,rfl,hS',b1,by omega,b5,rfl⟩
 cases k1:jobB vs.length hs.length fs.length j with
 | false =>
  have e:tk2 vs hs fs.length p j=false:=by simp [tk2,k1]
  rw [k1] at r98
  obtain ⟨mo,ho,ha,vi,ma⟩:=j
  simp only [jbC] at gJ r98
  simp [mc83_l0_b2,t2,t5,t6,t8,gX',gJ,nv,nh,nf,r98]
  exact hbad _ _ e (by simp)
 | true =>
  rw [k1] at r98
  have k1':=k1
  simp only [jobB,decide_eq_true_eq] at k1'
  obtain ⟨m,hm⟩:∃ m:Nat,j.mo=(m:Int):=⟨j.mo.toNat,by omega⟩
  obtain ⟨h,hh⟩:∃ h:Nat,j.ha=(h:Int):=⟨j.ha.toNat,by omega⟩
  obtain ⟨k,hk⟩:∃ k:Nat,j.vi=(k:Int):=⟨j.vi.toNat,by omega⟩
  obtain ⟨x,hx⟩:=lt_get (show h < hs.length by omega)
  obtain ⟨v,hv'⟩:=lt_get (show k < vs.length by omega)
  have hRx:(hs.map fun h=>(h,vv))[h]?=some (x,vv):=by rw [List.getElem?_map,hx]; rfl
  obtain ⟨q,iq,lq,_,nq⟩:=getR un84 sz87 hnP_length (hR.up hP.up) hh hRx
  have r72:=S72.call (P:=Try.prog) h72 (m:=M + 1) (w:=w) ⟨x,vv,vs,v,j.ho,k,rfl,hS'.v,hv',rfl⟩
  have et:tk2 vs hs fs.length p j=(canH x v j.ho j.vi && (decide (1≤j.ma) && (decide (j.ma≤x.da - dayS p j.mo j.ha) && decide (j.ma≤x.ra - hrS p j.mo j.ha j.ho)))):=by
   simp [tk2,k1,hh,hk,hx,hv']
  rw [← hk] at r72
  simp only [hnP,hnC] at lq r72
  cases k2:canH x v j.ho j.vi with
  | false =>
   rw [k2] at r72 et
   obtain ⟨mo,ho,ha,vi,ma⟩:=j
   simp only at iq r72
   simp only [jbC] at gJ r98
   simp [mc83_l0_b2,t2,t5,t6,t8,gX',gJ,nv,nh,nf,r98,iq,lq,r72]
   exact hbad _ _ et (by simp)
  | true =>
   rw [k2] at r72 et
   obtain ⟨ho0,ho1⟩:=can_hour (vs:=vs) (b6 v (List.mem_of_getElem? hv')) k2
   obtain ⟨o,ho⟩:∃ o:Nat,j.ho=(o:Int):=⟨j.ho.toNat,by omega⟩
   obtain ⟨L,hML,hAb⟩:=hP.mp
   obtain ⟨l1,l2⟩:=hAb m h x (by omega) hx
   have l2:=l2 o (by omega)
   have hxb:=b7 x (List.mem_of_getElem? hx)
   simp only [hhB,inH,Bool.and_eq_true,decide_eq_true_eq] at hxb
   have d1:=hU.day m h x hx
   have d2:=hU.dayPos m h
   have d3:=hU.hr m h o x hx
   have d4:=hU.hrPos m h o
   have hwl:w.lim≤km:=by rw [hP.up.lim]; omega
   obtain ⟨_,w9,c99,rfl,K9,M9⟩:=call99 (ov:=ov) M h99 h81 j w hML hP.kn hwl (x:=x.da - dayS p m h) (y:=x.ra - hrS p m h o) (by rw [hm,hh]; exact l1) (by rw [hm,hh,ho]; exact l2) (by omega) (by omega) (by omega)
   have etk:tk2 vs hs fs.length p j=tkB j (x.da - dayS p m h) (x.ra - hrS p m h o):=by
    rw [et,hm,hh,ho,Bool.eq_iff_iff]
    simp only [tkB,Bool.true_and,Bool.and_eq_true,decide_eq_true_eq]
    omega
   have uS9:Up wS w9:=⟨fun b hb=>by rw [K9.keep b (by have:=hP.up.next; omega) (by omega)]; exact hP.up.at hb,by have:=hP.up.next; have:=K9.next; omega,by rw [K9.lim,hP.up.lim]⟩
   cases k3:tkB j (x.da - dayS p m h) (x.ra - hrS p m h o) with
   | false =>
    rw [k3] at c99 etk
    obtain ⟨mo,ho',ha,vi,ma⟩:=j
    simp only at iq r72
    simp only [jbC] at gJ r98 c99
    simp [mc83_l0_b2,t2,t5,t6,t8,gX',gJ,nv,nh,nf,r98,iq,lq,r72,c99]
    exact hbad _ _ etk (by simp)
   | true =>
    rw [k3] at c99 etk M9
    rw [if_pos rfl] at M9
    have hP9:Pw wS km hs fs.length (p++[j]) w9:=by
     refine ⟨uS9,by have:=hP.kn; have:=K9.next; omega,_,M9,?_⟩
     have:=hAb.push (m:=m) (h:=h) (o:=o) (by omega) hx (by omega) j hm hh ho
     rw [hm,hh,ho]
     exact this
    obtain ⟨mo,ho',ha,vi,ma⟩:=j
    simp only at iq r72
    simp only [jbC] at gJ r98 c99
    simp [mc83_l0_b2,t2,t5,t6,t8,gX',gJ,nv,nh,nf,r98,iq,lq,r72,c99]
    exact hgood _ _ etk hP9 (by simp [t1]) (by simp [t2]) (by simp [t5]) (by simp [t6]) (by simp [t16]) (by simp [t17]) (by simp [t18])
end
theorem ord_take {l:List HJb} {i:Nat} {y x:HJb} (h:l[i]?=some y):ordB (l.take (i + 1)) x=ltJ y x:=by
 rw [List.take_add_one,h]
 simp [ordB]
theorem take_push {α:Type} {l:List α} {i:Nat} {x:α} (h:l[i]?=some x):l.take (i + 1)=l.take i++[x]:=by
 rw [List.take_add_one,h]; rfl
theorem drop_cons {α:Type} {l:List α} {i:Nat} {x:α} (h:l[i]?=some x):l.drop i=x::l.drop (i + 1):=by
 obtain ⟨hi,e⟩:=List.getElem?_eq_some_iff.1 h
 rw [List.drop_eq_getElem_cons hi,e]
section
variable {ov:Ov} {vs:List HVn} {hs:List HHd} {fs:List (List (Int × Int))} {vv hv fv v5 pv:Value} {wS:AW} {X km:Nat} {l:List HJb}
set_option maxHeartbeats 1000000 in
theorem part83a (M:Nat) (h92:HasP ov 92 S92.F) (h93:∀ args w,ov 93 args w=none) (hP:RowsV jbC wS pv l) (i:Nat) (x:HJb) (hx:l[i]?=some x) (hlen:l.length≤2048) (w:AW) (hu:Up wS w) (hle:w.lim≤w.next) (J:Nat) (gJ:w.heap.get J=some (.cells (jbC x) 67 false)) (hJ:J < w.next) (t:Tm) (Q:Ex→Tm→AW→Prop)
  (t1:tget t 1=pv) (t7:tget t 7=.int .i64 (i:Nat)) (t8:tget t 8=.pointer (some ⟨J,0,none⟩)) (v2 v5 v6 v16 v17 v18:Value) (t2:tget t 2=v2) (t5:tget t 5=v5) (t6:tget t 6=v6) (t16:tget t 16=v16) (t17:tget t 17=v17) (t18:tget t 18=v18)
  (hbad:∀ t w,ordB (l.take i) x=false→tget t 4=.bool false→Q .ret t w)
  (hgood:∀ t w',ordB (l.take i) x=true→Up w w'→tget t 1=pv→tget t 2=v2→tget t 5=v5→tget t 6=v6→tget t 8=.pointer (some ⟨J,0,none⟩)→tget t 16=v16→tget t 17=v17→tget t 18=v18→wp (exM Try.prog (run Try.prog ov (M + 2)) mc83_l0_b2 t w') Q):wp (exM Try.prog (run Try.prog ov (M + 2)) mc83_l0_b1 t w) Q:=by
 rcases Nat.eq_zero_or_pos i with h0 | h0
 ·subst h0
  have e:ordB (l.take 0) x=true:=by simp [ordB]
  simp [mc83_l0_b1,t1,t7,t8]
  exact hgood _ _ e (Up.refl w) (by simp [t1]) (by simp [t2]) (by simp [t5]) (by simp [t6]) (by simp [t8]) (by simp [t16]) (by simp [t17]) (by simp [t18])
 ·obtain ⟨k,rfl⟩:∃ k,i=k + 1:=⟨i - 1,by omega⟩
  have hlt:=(List.getElem?_eq_some_iff.1 hx).1
  obtain ⟨y,hy⟩:=lt_get (show k < l.length by omega)
  rw [ord_take hy] at hbad hgood
  obtain ⟨q,iq,lq,_,nq⟩:=getR un39 sz67 jbC_length (hP.up hu) rfl hy
  obtain ⟨v31,w2,c1,r1,j1,u1⟩:=call93 (ov:=ov) (M + 1) h93 y w hle
  have hle2:w2.lim≤w2.next:=by rw [u1.lim]; have:=u1.next; omega
  obtain ⟨v33,w3,c2,r2,j2,u2⟩:=call93 (ov:=ov) (M + 1) h93 x w2 hle2
  have r92:=S92.call (P:=Try.prog) h92 (m:=M + 1) (w:=w3) ⟨v31,v33,[y.mo,y.ho,y.ha,y.vi],[x.mo,x.ho,x.ha,x.vi],rfl,r1.up u2,r2,rfl,by simp,rfl⟩
  have gJ2:=(u1.at hJ).trans gJ
  have hw1:IntKind.wrap .i64 (((k + 1:Nat):Int) - 1)=(k:Int):=by
   rw [show (((k + 1:Nat):Int) - 1)=(k:Int) by omega]; exact wrap64_in (by omega) (by omega)
  have hpos:(0:Int) < ((k + 1:Nat):Int):=by omega
  have hwk:IntKind.wrap .i64 (k:Int)=(k:Int):=wrap64_in (by omega) (by omega)
  have el:=lex_ltJ y x
  obtain ⟨z,hz⟩:∃ z,lexH [y.mo,y.ho,y.ha,y.vi] [x.mo,x.ho,x.ha,x.vi]=z:=⟨_,rfl⟩
  rw [hz] at el r92
  obtain ⟨y1,y2,y3,y4,y5⟩:=y
  obtain ⟨x1,x2,x3,x4,x5⟩:=x
  simp only [jbC] at lq gJ gJ2 c1 c2
  by_cases hzn:0≤z
  ·have e:ltJ ⟨y1,y2,y3,y4,y5⟩ ⟨x1,x2,x3,x4,x5⟩=false:=by rw [el]; simp; omega
   have hw1':IntKind.wrap .i64 ((k:Int) + 1 - 1)=(k:Int):=by
    rw [show ((k:Int) + 1 - 1)=(k:Int) by omega]; exact wrap64_in (by omega) (by omega)
   have hpos':(0:Int) < (k:Int) + 1:=by omega
   simp [mc83_l0_b1,t1,t7,t8,hpos,hpos',hw1,hw1',hwk,iq,lq,gJ,gJ2,c1,c2,j1,j2,r92,hzn,smi5]
   exact hbad _ _ e (by simp)
  ·have e:ltJ ⟨y1,y2,y3,y4,y5⟩ ⟨x1,x2,x3,x4,x5⟩=true:=by rw [el]; simp; omega
   have hw1':IntKind.wrap .i64 ((k:Int) + 1 - 1)=(k:Int):=by
    rw [show ((k:Int) + 1 - 1)=(k:Int) by omega]; exact wrap64_in (by omega) (by omega)
   have hpos':(0:Int) < (k:Int) + 1:=by omega
   simp [mc83_l0_b1,t1,t7,t8,hpos,hpos',hw1,hw1',hwk,iq,lq,gJ,gJ2,c1,c2,j1,j2,r92,hzn,smi5]
   exact hgood _ _ e (u1.trans u2) (by simp [t1]) (by simp [t2]) (by simp [t5]) (by simp [t6]) (by simp [t8]) (by simp [t16]) (by simp [t17]) (by simp [t18])
end
theorem same_sea {w:AW} {vv hv fv:Value} {vs:List HVn} {hs:List HHd} {fs:List (List (Int × Int))} (h:SeaV w vv hv fv vs hs fs):sameVal 5 (.agg ⟨[vv,hv,fv]⟩) (.agg ⟨[vv,hv,fv]⟩)=true:=by
 obtain ⟨a,b,e1⟩:=h.v.len
 obtain ⟨c,d,e2⟩:=h.h.len
 obtain ⟨e,f,e3⟩:=h.f.len
 rw [e1,e2,e3]
 refine same_agg _ (by
  intro v hv
  simp only [List.mem_cons,List.not_mem_nil,or_false] at hv
  rcases hv with rfl | rfl | rfl <;> exact sameN_slice 3 _ _ _)
def S83:PSpec where
 R args w v:=∃ (vv hv fv pv:Value) (vs:List HVn) (hs:List HHd) (fs:List (List (Int × Int))) (l:List HJb),args=[.agg ⟨[vv,hv,fv]⟩,pv]∧SeaV w vv hv fv vs hs fs∧RowsV jbC w pv l∧seaB vs hs fs=true∧v=.bool (planB vs hs fs.length l)
 uniq:=by
  rintro _ _ _ _ ⟨a,b,c,d,x,y,z,l,rfl,h1,h2,_,rfl⟩ ⟨a',b',c',d',x',y',z',l',e,k1,k2,_,rfl⟩
  cases e
  obtain ⟨rfl,rfl,rfl⟩:=h1.uniq k1
  rw [h2.uniq (m:=5) jbC_length jbC_inj k2]
 shut:=by rintro _ _ _ ⟨a,b,c,d,x,y,z,l,e,h1,h2⟩; exact ⟨a,b,c,d,x,y,z,l,e,⟨h1.v,h1.h,h1.f⟩,h2⟩
section
variable {ov:Ov}
theorem run83 (ho:∀ args w,ov 83 args w=none) (ho43:∀ args w,ov 43 args w=none) (h72:HasP ov 72 S72.F) (h92:HasP ov 92 S92.F) (h93:∀ args w,ov 93 args w=none) (ho97:∀ args w,ov 97 args w=none) (h98:HasP ov 98 S98.F) (h99:∀ args w,ov 99 args w=none) (h81:HasP ov 81 S81.F)
  (vs:List HVn) (hs:List HHd) (fs:List (List (Int × Int))) (l:List HJb) (vv hv fv pv:Value) (w:AW) (hl:w.lim=w.next) (hS:SeaV w vv hv fv vs hs fs) (hP:RowsV jbC w pv l) (hB:seaB vs hs fs=true) :
  ∃ v w',(run Try.prog ov 3).call 83 [.agg ⟨[vv,hv,fv]⟩,pv] w .none=.ok (.ret v) w' .none∧v=.bool (planB vs hs fs.length l):=by
 refine call_wp text83 (by simp) (ho _ _) ?_
 obtain ⟨b1,b2,b3,b4,b5,b6,b7,b8⟩:=sea_parts hB
 obtain ⟨nv,nh,nf⟩:=hS.nj
 have hl1:=fun w2=>len39V (w':=w2) hP
 have pj:notJunk pv=some pv:=by obtain ⟨x,y,rfl⟩:=hP.len; rfl
 by_cases hbig:2048 < l.length
 ·have hbig':(2048:Int) < (l.length:Int):=by omega
  have e:planB vs hs fs.length l=false:=by
   unfold planB; rw [decide_eq_false (by omega)]; rfl
  simp [mc83,cellsOf_agg,nv,nh,nf,pj,hl1,hbig,hbig',e,tupV]
 have hbig':¬ (2048:Int) < (l.length:Int):=by omega
 have hlen:l.length≤2048:=by omega
 obtain ⟨w1,hw1⟩:∃ w1:AW,w1=⟨w.heap.put w.next (some (.cells [vv,hv,fv] 26 false)),w.next + 1,w.lim⟩:=⟨_,rfl⟩
 have u1:Up w w1:=by rw [hw1]; exact (Up.refl w).add _
 have n1:w1.next=w.next + 1:=by rw [hw1]
 have gX1:w1.heap.get w.next=some (.cells [vv,hv,fv] 26 false):=by rw [hw1]; simp
 obtain ⟨v5,w2,c43,r5,u2⟩:=call43 (ov:=ov) 1 ho43 vs hs fs b3 vv hv fv w1 (by rw [u1.lim]; omega) (hS.up u1)
 have gX2:=(u2.at (show w.next < w1.next by omega)).trans gX1
 have hn2:=u2.next
 obtain ⟨v6,w3,c97,km,L,rfl,hML,hkl,hkn,hF,u3⟩:=call97 (ov:=ov) 1 ho97 vs hs fs b3 b5 vv hv fv w2 (by rw [u2.lim,u1.lim]; omega) (hS.up (u1.trans u2))
 have j5:notJunk v5=some v5:=by obtain ⟨x,y,rfl⟩:=r5.len; rfl
 have ss:=same_sea hS
 have hS2:=hS.up (u1.trans u2)
 have hP2:=hP.up (u1.trans u2)
 have e0:planB vs hs fs.length l=planG vs hs fs.length [] l:=by
  unfold planB; rw [decide_eq_true hlen]; rfl
 rw [hw1] at c43
 simp [mc83,cellsOf_agg,nv,nh,nf,pj,hl1,hbig,hbig',c43,j5,gX2,ss,c97]
 rw [e0]
 refine wp_seqX (wp_blockX (wp_rounds (fun i t w'=>Pw w2 km hs fs.length (l.take i) w'∧UseOk hs (l.take i)∧planG vs hs fs.length (l.take i) (l.drop i)=planG vs hs fs.length [] l∧tget t 1=pv∧tget t 2=.pointer (some ⟨w.next,0,none⟩)∧tget t 5=v5∧tget t 6=.map (some km)∧tget t 16=pv∧tget t 17=.int .i64 (l.length:Nat)∧tget t 18=.int .i64 (i:Nat)∧i≤l.length) 3000 (by decide) ?_ ?_))
 ·refine ⟨⟨u3,hkn,L,hML,by simpa using hF.ab⟩,UseOk.nil fun x hx=>?_,by simp,by simp,by simp,by simp,by simp,by simp,by simp,by simp,Nat.zero_le _⟩
  have:=b7 x hx
  simp only [hhB,inH,Bool.and_eq_true,decide_eq_true_eq] at this
  omega
 ·rintro i t w' ⟨hPw,hU,he,t1,t2,t5,t6,t16,t17,t18,hi⟩
  by_cases hlt:i < l.length
  ·obtain ⟨x,hx⟩:=lt_get hlt
   have hw1':IntKind.wrap .i64 ((i:Int) + 1)=(i:Int) + 1:=wrap64_in (by omega) (by omega)
   obtain ⟨p,hia,hld,_,hpb⟩:=getR un39 sz67 jbC_length (hP2.up hPw.up) rfl hx
   have hle:w'.lim≤w'.next:=by rw [hPw.up.lim,u2.lim,u1.lim]; have:=hPw.up.next; omega
   have u4:Up w' ⟨(w'.heap.put w'.next (some (.cells [.int .i64 0,.int .i64 0,.int .i64 0,.int .i64 0,.int .i64 0] 67 false))).put w'.next (some (.cells (jbC x) 67 false)),w'.next + 1,w'.lim⟩:=((Up.refl w').add _).put (Nat.le_refl _) (Nat.le_refl _)
   have key:=part83a (ov:=ov) (wS:=w2) (pv:=pv) (l:=l) 0 h92 h93 hP2 i x hx hlen _ (hPw.up.trans u4) (by show w'.lim≤w'.next + 1; omega) w'.next (by simp) (by show w'.next < w'.next + 1; omega)
   rw [drop_cons hx] at he
   have he:(jstB vs hs fs.length (l.take i) x && planG vs hs fs.length (l.take i++[x]) (l.drop (i + 1)))=planG vs hs fs.length [] l:=he
   rw [jst_eq] at he
   have hkn':=hPw.kn
   obtain ⟨x1,x2,x3,x4,x5⟩:=x
   have hld':=hld
   simp only [jbC] at hld' key u4
   simp [mc83_l0_eq,t16,t17,t18,hlt,hia,hld',hle]
   refine wp_seqX (wp_blockX (key _ _ ?_ ?_ ?_ (.pointer (some ⟨w.next,0,none⟩)) v5 (.map (some km)) pv (.int .i64 (l.length:Nat)) (.int .i64 (i:Nat)) ?_ ?_ ?_ ?_ ?_ ?_ ?_ ?_))
   ·simp [t1]
   ·simp
   ·simp
   ·simp [t2]
   ·simp [t5]
   ·simp [t6]
   ·simp [t16]
   ·simp [t17]
   ·simp [t18]
   ·intro t w4 e t4
    rw [e] at he
    simp [t4,tupV,← he]
   ·intro t w4 e u5 s1 s2 s5 s6 s8 s16 s17 s18
    refine part83b (ov:=ov) (vs:=vs) (hs:=hs) (fs:=fs) (wS:=w2) (X:=w.next) (km:=km) 0 h98 h72 h99 h81 hS2 r5 (by omega) gX2 hB hkl (by rw [u2.lim,u1.lim]; omega) (l.take i) ⟨x1,x2,x3,x4,x5⟩ hU w4 (hPw.grow (u4.trans u5)) w'.next ?_ ?_ ?_ pv pv (.int .i64 (l.length:Nat)) (.int .i64 (i:Nat)) t s1 s2 s5 s6 s8 s16 s17 s18 _ ?_ ?_
    ·rw [u5.at (show w'.next < w'.next + 1 by omega)]; simp [jbC]
    ·have:=u5.next; have:w'.next + 1≤w4.next:=this; omega
    ·omega
    ·intro t w5 e2 t4
     rw [e2] at he
     simp at he
     simp [t4,tupV,← he]
    ·intro t w5 e2 hPw5 r1 r2 r5' r6 r16 r17 r18
     have hj:jstB vs hs fs.length (l.take i) ⟨x1,x2,x3,x4,x5⟩=true:=by rw [jst_eq,e,e2]; rfl
     rw [e,e2] at he
     simp [r1,r2,r5',r6,r16,r17,r18,hw1']
     rw [take_push hx]
     exact ⟨by omega,hPw5,hU.push hj,by simpa using he,by omega⟩
  ·have hi':i=l.length:=by omega
   have:planG vs hs fs.length [] l=true:=by rw [← he,List.drop_eq_nil_of_le (by omega)]; rfl
   simp [mc83_l0_eq,t17,t18,hi',this,tupV]
end
end Go.Proofs.Ytiokkkjahkhbfaa.walk
namespace Go.Sh
open Go
def dyL (p:List HJb):List Int:=(List.range 24).map fun k=>dayS p ((k / 4:Nat):Int) ((k % 4:Nat):Int)
theorem dyL_length (p:List HJb):(dyL p).length=24:=by simp [dyL]
theorem dyL_at (p:List HJb) {m h:Nat} (hm:m < 6) (hh:h < 4):(dyL p)[m * 4 + h]?=some (dayS p m h):=by
 unfold dyL
 rw [List.getElem?_map,List.getElem?_range (by omega)]
 simp only [Option.map_some]
 rw [show (m * 4 + h) / 4=m by omega,show (m * 4 + h) % 4=h by omega]
theorem dyL_push (p:List HJb) (j:HJb) {m h:Nat} (hm:m < 6) (hh:h < 4) (e1:j.mo=m) (e2:j.ha=h):(dyL p).set (m * 4 + h) (dayS p m h + j.ma)=dyL (p++[j]):=by
 apply List.ext_getElem?
 intro k
 rw [List.getElem?_set,dyL_length]
 by_cases hk:k < 24
 ·unfold dyL
  rw [List.getElem?_map,List.getElem?_map,List.getElem?_range hk]
  simp only [Option.map_some,dayS_push]
  by_cases e:m * 4 + h=k
  ·rw [if_pos e,if_pos (by omega),if_pos (by omega)]
   rw [show k / 4=m by omega,show k % 4=h by omega]
  ·rw [if_neg e,if_neg (by omega),Int.add_zero]
 ·rw [if_neg (by omega),List.getElem?_eq_none (by rw [dyL_length]; omega),List.getElem?_eq_none (by rw [dyL_length]; omega)]
theorem dyL_nil:dyL []=List.replicate 24 0:=by
 unfold dyL
 apply List.ext_getElem?
 intro k
 by_cases hk:k < 24
 ·rw [List.getElem?_map,List.getElem?_range hk,List.getElem?_replicate,if_pos hk]; rfl
 ·rw [List.getElem?_eq_none (by simp; omega),List.getElem?_eq_none (by simp; omega)]
theorem int_at {l:List Int} {k:Nat} {z:Int} (h:l[k]?=some z):(l.flatMap intC)[k]?=some (.int .i64 z):=by
 have e:l.flatMap intC=l.map fun z=>Value.int .i64 z:=by
  clear h
  induction l with
  | nil=>rfl
  | cons a l ih=>rw [List.flatMap_cons,ih]; rfl
 rw [e,List.getElem?_map,h]; rfl
theorem int_set (l:List Int) (k:Nat) (z:Int) (h:k < l.length):(l.flatMap intC).take k++(.int .i64 z::(l.flatMap intC).drop (k + 1))=(l.set k z).flatMap intC:=by
 have:=flat_set intC_length l k z h
 simp only [Nat.mul_one] at this
 exact this
theorem int_len (l:List Int):(l.flatMap intC).length=l.length:=by simpa using flat_length intC_length l
end Go.Sh
namespace Go.Proofs.Ytiokkkjahkhbfaa.walk
open Go Go.Sh
set_option maxRecDepth 100000
section
variable {ov:Ov}
end
section
variable {ov:Ov} {vs:List HVn} {hs:List HHd} {fs:List (List (Int × Int))} {vv hv fv pv:Value}
end
section
variable {ov:Ov}
end
end Go.Proofs.Ytiokkkjahkhbfaa.walk
namespace Go.Sh
open Go
def arrL (n:Nat) (f:Nat→Int):List Int:=(List.range n).map f
theorem arrL_length (n:Nat) (f:Nat→Int):(arrL n f).length=n:=by simp [arrL]
theorem arrL_at {n:Nat} {f:Nat→Int} {k:Nat} (h:k < n):(arrL n f)[k]?=some (f k):=by
 unfold arrL; rw [List.getElem?_map,List.getElem?_range h]; rfl
theorem arrL_set {n:Nat} {f f':Nat→Int} {i:Nat} {z:Int} (h:∀ k,k < n→f' k=if k=i then z else f k):(arrL n f).set i z=arrL n f':=by
 apply List.ext_getElem?
 intro k
 rw [List.getElem?_set,arrL_length]
 by_cases hk:k < n
 ·rw [arrL_at hk,arrL_at hk,h k hk]
  by_cases e:i=k
  ·rw [if_pos e,if_pos (by omega),if_pos e.symm]
  ·rw [if_neg e,if_neg (Ne.symm e)]
 ·have a:(arrL n f)[k]?=none:=List.getElem?_eq_none (by rw [arrL_length]; omega)
  have b:(arrL n f')[k]?=none:=List.getElem?_eq_none (by rw [arrL_length]; omega)
  rw [a,b]; split <;> (try split) <;> first | rfl | omega
theorem arrL_zero {n:Nat} {f:Nat→Int} (h:∀ k,k < n→f k=0):arrL n f=List.replicate n 0:=by
 apply List.ext_getElem?
 intro k
 by_cases hk:k < n
 ·rw [arrL_at hk,h k hk,List.getElem?_replicate,if_pos hk]
 ·rw [List.getElem?_eq_none (by rw [arrL_length]; omega),List.getElem?_eq_none (by rw [List.length_replicate]; omega)]
end Go.Sh
namespace Go.Proofs.Ytiokkkjahkhbfaa.walk
open Go Go.Sh
set_option maxRecDepth 100000
def S84:PSpec where
 R args w v:=∃ (x:Value) (L:List Int),args=[x]∧RowsV intC w x L∧L.length≤10∧(∀ z ∈ L,0≤z∧z≤100000)∧v=.int .i64 L.sum
 uniq:=by
  rintro _ _ _ _ ⟨x,L,rfl,h1,_,_,rfl⟩ ⟨_,L',h,h2,_,_,rfl⟩
  cases h
  rw [h1.uniq (m:=1) intC_length intC_inj h2]
 shut h:=h
theorem sum_tk {L:List Int} {i:Nat} {z:Int} (h:L[i]?=some z):(L.take (i + 1)).sum=(L.take i).sum + z:=by
 rw [List.take_add_one,h,List.sum_append]; simp
theorem sum_bd {L:List Int} (h:∀ z ∈ L,0≤z∧z≤100000) (hl:L.length≤10):0≤L.sum∧L.sum≤1000000:=by
 have:∀ L:List Int,(∀ z ∈ L,0≤z∧z≤100000)→0≤L.sum∧L.sum≤100000 * (L.length:Int):=by
  intro L
  induction L with
  | nil=>intro _; simp
  | cons a L ih =>
   intro h
   have h1:=h a (by simp)
   have h2:=ih fun z hz=>h z (by simp [hz])
   rw [List.sum_cons,List.length_cons]
   omega
 have:=this L h
 omega
theorem run84 {ov:Ov} (ho:∀ args w,ov 84 args w=none) (x:Value) (L:List Int) (hL:L.length≤10) (hb:∀ z ∈ L,0≤z∧z≤100000) (w:AW) (hx:RowsV intC w x L):∃ v w',(run Try.prog ov 2).call 84 [x] w .none=.ok (.ret v) w' .none∧v=.int .i64 L.sum:=by
 refine call_wp text84 (by simp) (ho _ _) ?_
 have hl1:=fun w2=>len42V (w':=w2) hx
 simp [mc84,hl1]
 refine wp_seqX (wp_blockX (wp_rounds (fun i t w'=>w'=w∧tget t 3=.int .i64 (L.take i).sum∧tget t 6=x∧tget t 7=.int .i64 (L.length:Nat)∧tget t 8=.int .i64 (i:Nat)∧i≤L.length) 20 (by decide) ⟨rfl,by simp,by simp,by simp,by simp,Nat.zero_le _⟩ ?_))
 rintro i t w' ⟨rfl,t3,t6,t7,t8,hi⟩
 by_cases hlt:i < L.length
 ·obtain ⟨z,hz⟩:=lt_get hlt
  obtain ⟨p,ia,_,ld,_⟩:=getR un42 sz3 intC_length hx rfl hz
  have ld:=ld 0 _ rfl
  simp only [Nat.add_zero] at ld
  have hw1:IntKind.wrap .i64 ((i:Int) + 1)=(i:Int) + 1:=wrap64_in (by omega) (by omega)
  have b1:=sum_bd (L:=L.take i) (fun y hy=>hb y (List.mem_of_mem_take hy)) (by rw [List.length_take]; omega)
  have b2:=hb z (List.mem_of_getElem? hz)
  have hw2:IntKind.wrap .i64 ((L.take i).sum + z)=(L.take i).sum + z:=wrap64_in (by omega) (by omega)
  simp [mc84_l0,t3,t6,t7,t8,hlt,ia,ld,hw1,hw2]
  exact ⟨by omega,(sum_tk hz).symm,hlt⟩
 ·have hi':i=L.length:=by omega
  subst hi'
  rw [List.take_length] at t3
  simp [mc84_l0,t3,t7,t8,tupV]
theorem run37 {ov:Ov} (ho:∀ args w,ov 37 args w=none) (x:Value) (L:List Int) (hL:L.length≤10) (hb:∀ z ∈ L,0≤z∧z≤100000) (w:AW) (hx:RowsV intC w x L):∃ v w',(run Try.prog ov 2).call 37 [x] w .none=.ok (.ret v) w' .none∧v=.int .i64 L.sum:=by
 refine call_wp text37 (by simp) (ho _ _) ?_
 have hl1:=fun w2=>len42V (w':=w2) hx
 simp [mc37]
 refine wp_seqX (wp_blockX (wp_rounds (fun i t w'=>w'=w∧tget t 3=.int .i64 (L.take i).sum∧tget t 0=x∧tget t 4=.int .i64 (i:Nat)∧i≤L.length) 20 (by decide) ⟨rfl,by simp,by simp,by simp,Nat.zero_le _⟩ ?_))
 rintro i t w' ⟨rfl,t3,t0,t4,hi⟩
 by_cases hlt:i < L.length
 ·obtain ⟨z,hz⟩:=lt_get hlt
  obtain ⟨p,ia,_,ld,_⟩:=getR un42 sz3 intC_length hx rfl hz
  have ld:=ld 0 _ rfl
  simp only [Nat.add_zero] at ld
  have hw1:IntKind.wrap .i64 ((i:Int) + 1)=(i:Int) + 1:=wrap64_in (by omega) (by omega)
  have b1:=sum_bd (L:=L.take i) (fun y hy=>hb y (List.mem_of_mem_take hy)) (by rw [List.length_take]; omega)
  have b2:=hb z (List.mem_of_getElem? hz)
  have hw2:IntKind.wrap .i64 ((L.take i).sum + z)=(L.take i).sum + z:=wrap64_in (by omega) (by omega)
  have hlt':(i:Int) < (L.length:Int):=by omega
  simp [mc37_l0,t3,t0,t4,hl1,hlt,hlt',ia,ld,hw1,hw2]
  exact ⟨by omega,(sum_tk hz).symm,hlt⟩
 ·have hi':i=L.length:=by omega
  subst hi'
  rw [List.take_length] at t3
  simp [mc37_l0,t3,t0,t4,hl1,tupV]
theorem list42:isList Try.prog 42=true:=by kernel_rfl
theorem elem42:elemA Try.prog 42=some 3:=by kernel_rfl
theorem small3:smallT Try.prog 3=true:=by kernel_rfl
theorem eqn42 (a:Addr) (n c:Nat) (w:AW):(binW Try.prog .eql 42 true).val (.slice (some a) n c) (.slice none 0 0) w=.val (.bool false) w:=by kernel_rfl
theorem call85 {ov:Ov} (M:Nat) (ho:∀ args w,ov 85 args w=none) (L:List Int) (hL:L.length≤1000) (h0:L ≠ []) (x:Value) (w:AW) (hl:w.lim≤w.next) (hx:RowsV intC w x L) :
  ∃ v w',(run Try.prog ov (M + 1)).call 85 [x] w .none=.ok (.ret v) w' .none∧v=.slice (some ⟨w.next + 1,0,none⟩) L.length L.length∧w'.heap.get (w.next + 1)=some (.cells (L.flatMap intC) 3 false)∧w'.next=w.next + 1 + 1∧Up w w':=by
 refine call_wp text85 (by simp) (ho _ _) ?_
 have u1:Up w ⟨w.heap.put w.next (some (.cells [] 3 false)),w.next + 1,w.lim⟩:=(Up.refl w).add _
 obtain ⟨s1,s2⟩:=src_rows intC_length (by decide) (hx.up u1) h0
 have hlp:0 < L.length:=List.length_pos_iff.2 h0
 have hap:=append_lit (P:=Try.prog) list42 elem42 sz3 small3 (B:=w.next) s2 s1 (flat_length intC_length L) hlp (by omega)
 obtain ⟨b,off,sq,c,rfl,hr⟩:=hx.at_ 0 hlp
 have nj:notJunk (.slice (some ⟨b,off,sq⟩) L.length c)=some (.slice (some ⟨b,off,sq⟩) L.length c):=rfl
 simp only at hap
 simp [mc85,isConst,eqn42,hap,nj,tupV]
 exact u1.add _
def nilS:Value:=.slice none 0 0
def slV (V c:Nat):Value:=.slice (some ⟨c,0,none⟩) V V
theorem repl_one (x:Value):∀ n:Nat,repl [x] n=List.replicate n x
 | 0=>rfl
 | n + 1=>by rw [List.replicate_succ,← repl_one x n]; show appL [x] (repl [x] n)=_; rw [appL_eq]; rfl
theorem mk27 (n:Nat) (hn:n≤1000) (w:AW):makeSliceA Try.prog w 27 (.int .i64 (n:Int)) (.int .i64 (n:Int))=.val (.slice (some ⟨w.next,0,none⟩) n n) ⟨w.heap.put w.next (some (.cells (List.replicate n nilS) 42 false)),w.next + 1,w.lim⟩:=by
 rw [make_eq (e:=42) (z:=nilS) (by kernel_rfl) (by kernel_rfl) (by kernel_rfl) n hn w,← repl_one]; rfl
theorem mk42 (n:Nat) (hn:n≤1000) (w:AW):makeSliceA Try.prog w 42 (.int .i64 (n:Int)) (.int .i64 (n:Int))=.val (.slice (some ⟨w.next,0,none⟩) n n) ⟨w.heap.put w.next (some (.cells ((List.replicate n (0:Int)).flatMap intC) 3 false)),w.next + 1,w.lim⟩:=by
 rw [make_eq (e:=3) (z:=.int .i64 0) (by kernel_rfl) (by kernel_rfl) (by kernel_rfl) n hn w,← repl_flat]; rfl
structure GrV (n0:Nat) (w:AW) (V g M:Nat) (cs:List Nat) (G:List (List Int)):Prop where
 gg:w.heap.get g=some (.cells (cs.map (slV V)++List.replicate (M - cs.length) nilS) 42 false)
 at_:∀ (m c:Nat) r,cs[m]?=some c→G[m]?=some r→w.heap.get c=some (.cells (r.flatMap intC) 3 false)∧n0≤c∧c < w.next∧c ≠ g
 inj:∀ (m m' c:Nat),cs[m]?=some c→cs[m']?=some c→m=m'
 glo:n0≤g
 ghi:g < w.next
theorem GrV.up {n0:Nat} {w w':AW} {V g M:Nat} {cs:List Nat} {G:List (List Int)} (hl:cs.length≤G.length) (h:GrV n0 w V g M cs G) (u:Up w w'):GrV n0 w' V g M cs G :=
 ⟨by rw [u.at h.ghi]; exact h.gg,fun m c r hc hr=>by obtain ⟨a,b,d,e⟩:=h.at_ m c r hc hr; exact ⟨by rw [u.at d]; exact a,b,Nat.lt_of_lt_of_le d u.next,e⟩,h.inj,h.glo,Nat.lt_of_lt_of_le h.ghi u.next⟩
theorem GrV.lt {n0:Nat} {w:AW} {V g M:Nat} {cs:List Nat} {G:List (List Int)} (hl:cs.length≤G.length) (h:GrV n0 w V g M cs G) {m c:Nat} (hc:cs[m]?=some c):c < w.next:=by
 obtain ⟨r,hr⟩:=lt_get (show m < G.length by have:=(List.getElem?_eq_some_iff.1 hc).1; omega)
 exact (h.at_ m c r hc hr).2.2.1
section
variable {ov:Ov} {tv:Value} {tr:List (List Int)} {w0:AW}
theorem loop58a (K:Nat) (h85:∀ args w,ov 85 args w=none) (hT:Rows2 intC w0 tv tr) (V g:Nat) (hV:1≤V∧V≤6) (hM:tr.length≤6) (hrl:∀ r ∈ tr,r.length=V) (hg:w0.next≤g) (hl0:w0.lim≤w0.next) (w:AW) (hu:Up w0 w) (gg:w.heap.get g=some (.cells (List.replicate tr.length nilS) 42 false)) (hgn:g < w.next) (X:Nat) (ox:AObj) (gX:w.heap.get X=some ox) (hXg:¬ X=g) (hXn:X < w.next)
  (v1 v2 v3:Value) (t:Tm) (t1:tget t 1=v1) (t2:tget t 2=v2) (t3:tget t 3=v3) (t7:tget t 7=.int .i64 0) (t8:tget t 8=.slice (some ⟨g,0,none⟩) tr.length tr.length) (t19:tget t 19=tv) (t20:tget t 20=.int .i64 (tr.length:Nat)) (t21:tget t 21=.int .i64 0) (Q:Ex→Tm→AW→Prop)
  (hQ:∀ t w cs,Up w0 w→cs.length=tr.length→GrV w0.next w V g tr.length cs tr→w.heap.get X=some ox→X < w.next→tget t 1=v1→tget t 2=v2→tget t 3=v3→tget t 7=.int .i64 0→tget t 8=.slice (some ⟨g,0,none⟩) tr.length tr.length→Q (.exit 0) t w):wp (exM Try.prog (run Try.prog ov (K + 1)) (.loop mc58_l0) t w) Q:=by
 refine wp_rounds (fun i t w=>(∃ cs,cs.length=i∧GrV w0.next w V g tr.length cs tr)∧Up w0 w∧w.heap.get X=some ox∧X < w.next∧tget t 1=v1∧tget t 2=v2∧tget t 3=v3∧tget t 7=.int .i64 0∧tget t 8=.slice (some ⟨g,0,none⟩) tr.length tr.length∧tget t 19=tv∧tget t 20=.int .i64 (tr.length:Nat)∧tget t 21=.int .i64 (i:Nat)∧i≤tr.length) 20 (by decide) ⟨⟨[],rfl,⟨by simpa using gg,fun m c r hc _=>by simp at hc,fun m m' c hc _=>by simp at hc,hg,hgn⟩⟩,hu,gX,hXn,t1,t2,t3,t7,t8,t19,t20,by simpa using t21,Nat.zero_le _⟩ ?_
 clear t1 t2 t3 t7 t8 t19 t20 t21 gg hgn gX hXn hu t w
 rintro i t w ⟨⟨cs,hcl,hG⟩,hu,gX,hXn,t1,t2,t3,t7,t8,t19,t20,t21,hi⟩
 by_cases hlt:i < tr.length
 ·obtain ⟨r,hr⟩:=lt_get hlt
  have hrV:=hrl r (List.mem_of_getElem? hr)
  obtain ⟨p,ra,rc,hia,hld,hpb,hrow⟩:=Rows2.get un27 sz42 (hT.up hu) rfl hr
  have hw1:IntKind.wrap .i64 ((i:Int) + 1)=(i:Int) + 1:=wrap64_in (by omega) (by omega)
  have hle:w.lim≤w.next:=by rw [hu.lim]; have:=hu.next; omega
  obtain ⟨_,w2,c85,rfl,hc2,n2,u2⟩:=call85 (ov:=ov) K h85 r (by omega) (by intro e; rw [e] at hrV; simp at hrV; omega) _ w hle hrow
  have hG2:=hG.up (by omega) u2
  have gX2:=(u2.at hXn).trans gX
  have hia2:=fun w'=>ia27 w' ⟨g,0,none⟩ tr.length tr.length .i64 i hlt
  have gg2:=hG2.gg
  have hcl2:(cs.map (slV V)++List.replicate (tr.length - cs.length) nilS).length=tr.length:=by simp; omega
  have hfit:i + 1≤(cs.map (slV V)++List.replicate (tr.length - cs.length) nilS).length:=by omega
  have hlg:w2.lim≤g:=by rw [u2.lim,hu.lim]; omega
  have hset:(cs.map (slV V)++List.replicate (tr.length - cs.length) nilS).take i++(slV V (w.next + 1)::(cs.map (slV V)++List.replicate (tr.length - cs.length) nilS).drop (i + 1))=(cs++[w.next + 1]).map (slV V)++List.replicate (tr.length - (cs++[w.next + 1]).length) nilS:=by
   obtain ⟨k,hk⟩:∃ k,tr.length - cs.length=k + 1:=⟨tr.length - cs.length - 1,by omega⟩
   have e1:i=(cs.map (slV V)).length:=by rw [List.length_map,hcl]
   have e2:tr.length - (cs++[w.next + 1]).length=k:=by rw [List.length_append]; simp; omega
   rw [e2,hk,List.replicate_succ,e1,List.take_left,← List.drop_drop,List.drop_left,List.map_append,List.append_assoc]
   rfl
  obtain ⟨os,hos⟩:∃ os,os=cs.map (slV V)++List.replicate (tr.length - cs.length) nilS:=⟨_,rfl⟩
  rw [← hos] at hset hfit gg2
  have es:slV V (w.next + 1)=.slice (some ⟨w.next + 1,0,none⟩) V V:=rfl
  rw [es] at hset
  rw [hrV] at c85
  have hgw:¬ w.next + 1=g:=by have:=hG.ghi; omega
  simp [mc58_l0,t8,t19,t20,t21,hlt,hia,hld,hrV,c85,hia2,gg2,hfit,hlg,hw1]
  refine ⟨by omega,⟨cs++[w.next + 1],by simp; omega,⟨?_,?_,?_,hG2.glo,hG2.ghi⟩⟩,?_,?_,by omega,t1,t2,t3,t7,by omega⟩
  ·simp [hset]
  ·intro m c r' hc hr'
   show (w2.heap.put g _).get c=_∧_
   by_cases hm:m < cs.length
   ·rw [List.getElem?_append_left hm] at hc
    obtain ⟨a,b,d,e⟩:=hG2.at_ m c r' hc hr'
    exact ⟨by rw [get_put,if_neg e]; exact a,b,d,e⟩
   ·have hm2:m=i:=by
     have:=(List.getElem?_eq_some_iff.1 hc).1
     simp at this; omega
    subst hm2
    rw [List.getElem?_append_right (by omega),hcl] at hc
    simp at hc
    subst hc
    rw [hr] at hr'; cases hr'
    exact ⟨by rw [get_put,if_neg hgw]; exact hc2,by have:=hu.next; omega,by show w.next + 1 < w2.next; omega,hgw⟩
  ·intro m m' c hc hc'
   have hlt1:=(List.getElem?_eq_some_iff.1 hc).1
   have hlt2:=(List.getElem?_eq_some_iff.1 hc').1
   simp at hlt1 hlt2
   by_cases hm:m < cs.length <;> by_cases hm':m' < cs.length
   ·rw [List.getElem?_append_left hm] at hc
    rw [List.getElem?_append_left hm'] at hc'
    exact hG.inj m m' c hc hc'
   ·rw [List.getElem?_append_left hm] at hc
    rw [List.getElem?_append_right (by omega)] at hc'
    have:m' - cs.length=0:=by omega
    rw [this] at hc'
    simp at hc'
    have:=hG.lt (by omega) hc
    omega
   ·rw [List.getElem?_append_left hm'] at hc'
    rw [List.getElem?_append_right (by omega)] at hc
    have:m - cs.length=0:=by omega
    rw [this] at hc
    simp at hc
    have:=hG.lt (by omega) hc'
    omega
   ·omega
  ·exact (hu.trans u2).put (by have:=hu.next; omega) (Nat.le_refl _)
  ·rw [if_neg hXg]; exact gX2
 ·have hi':i=tr.length:=by omega
  simp [mc58_l0,t20,t21,hi']
  exact hQ _ _ cs hu (by omega) hG gX hXn (by simp [t1]) (by simp [t2]) (by simp [t3]) (by simp [t7]) (by simp [t8])
end
end Go.Proofs.Ytiokkkjahkhbfaa.walk
namespace Go.Sh
open Go
def P0 (V:Nat):List Int:=List.replicate V 0
theorem plS_snoc (vs:List HVn):∀ (l:List HJb) (G:List (List Int)) (P:List Int) (j:HJb),plS vs G P (l++[j])=(stG (plS vs G P l).1 j (stN vs (plS vs G P l).1 (plS vs G P l).2 j),stP (plS vs G P l).2 j (stN vs (plS vs G P l).1 (plS vs G P l).2 j))
 | [],_,_,_=>rfl
 | i::l,G,P,j=>by
  simp only [List.cons_append,plS]
  exact plS_snoc vs l _ _ j
theorem plS_le {M V nh:Nat} {vs:List HVn}:∀ {l:List HJb} {G:List (List Int)} {P:List Int},GrOk M V vs G P→(∀ j ∈ l,jobB V nh M j=true∧1≤j.ma)→∀ m v:Nat,g2 (plS vs G P l).1 m v≤g2 G m v
 | [],_,_,_,_,_,_=>Int.le_refl _
 | j::l,G,P,h,hj,m,v=>by
  obtain ⟨j1,j2⟩:=hj j (by simp)
  have ih:=plS_le (nh:=nh) (l:=l) (h.step j1 j2) (fun k hk=>hj k (List.mem_cons_of_mem _ hk)) m v
  have hp:=stN_pos h j1 j2
  rw [g2_st h j1] at ih
  simp only [plS]
  split at ih <;> omega
theorem take_push' {α:Type} {l:List α} {i:Nat} {x:α} (h:l[i]?=some x):l.take (i + 1)=l.take i++[x]:=by
 rw [List.take_add_one,h]; rfl
theorem g2_get {G:List (List Int)} {m k:Nat} {r:List Int} {x:Int} (hr:G[m]?=some r) (hx:r[k]?=some x):g2 G m k=x:=by
 unfold g2
 simp [List.getD_eq_getElem?_getD,hr,hx]
theorem beV_get {vs:List HVn} {k:Nat} {v:HVn} (h:vs[k]?=some v):beV vs k=v.be:=by
 unfold beV; simp [h]
theorem GrOk.row {M V:Nat} {vs:List HVn} {G:List (List Int)} {P:List Int} (h:GrOk M V vs G P) {m k:Nat} (hm:m < M) (hk:k < V):∃ r x y v,G[m]?=some r∧r.length=V∧r[k]?=some x∧P[k]?=some y∧vs[k]?=some v∧g2 G m k=x∧P.getD k 0=y∧beV vs k=v.be:=by
 obtain ⟨r,hr⟩:∃ r,G[m]?=some r:=⟨_,List.getElem?_eq_getElem (by rw [h.lenG]; exact hm)⟩
 have hl:r.length=V:=by
  have:=h.lenR m hm
  rwa [List.getD_eq_getElem?_getD,hr] at this
 obtain ⟨x,hx⟩:∃ x,r[k]?=some x:=⟨_,List.getElem?_eq_getElem (by omega)⟩
 obtain ⟨y,hy⟩:∃ y,P[k]?=some y:=⟨_,List.getElem?_eq_getElem (by rw [h.lenP]; exact hk)⟩
 obtain ⟨v,hv⟩:∃ v,vs[k]?=some v:=⟨_,List.getElem?_eq_getElem (by rw [h.nv]; exact hk)⟩
 exact ⟨r,x,y,v,hr,hl,hx,hy,hv,g2_get hr hx,by rw [List.getD_eq_getElem?_getD,hy]; rfl,beV_get hv⟩
theorem P0_length (V:Nat):(P0 V).length=V:=by simp [P0]
theorem P0_get (V v:Nat):(P0 V).getD v 0=0:=by
 rw [List.getD_eq_getElem?_getD,P0,List.getElem?_replicate]
 split <;> rfl
theorem GrOk.init {M V:Nat} {vs:List HVn} {tr:List (List Int)} (nv:vs.length=V) (hM:tr.length=M) (hr:∀ r ∈ tr,r.length=V) (hp:∀ m v:Nat,0≤g2 tr m v) (hb:∀ v ∈ vs,0≤v.be):GrOk M V vs tr (P0 V):=by
 refine ⟨nv,hM,fun m hm=>?_,P0_length V,fun m v _ _=>hp m v,fun v hv=>?_⟩
 ·obtain ⟨r,e⟩:∃ r,tr[m]?=some r:=⟨_,List.getElem?_eq_getElem (by omega)⟩
  rw [List.getD_eq_getElem?_getD,e]
  exact hr r (List.mem_of_getElem? e)
 ·obtain ⟨x,e⟩:∃ x,vs[v]?=some x:=⟨_,List.getElem?_eq_getElem (by omega)⟩
  rw [P0_get,beV_get e]
  have:=hb x (List.mem_of_getElem? e)
  omega
end Go.Sh
