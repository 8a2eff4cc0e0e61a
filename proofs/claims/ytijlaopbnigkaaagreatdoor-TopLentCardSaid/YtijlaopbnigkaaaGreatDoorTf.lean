/- Part of a proof: see the text with the theorem. -/
import Derived.Test.YtijlaopbnigkaaaGreatDoorTe
import Derived.Test.YtijlaopbnigkaaaGreatDoorTd
import Derived.Test.YtijlaopbnigkaaaGreatDoorTb
import Derived.KernelRfl
import Derived.Test.YtijlaopbnigkaaaGreatDoorProg
set_option linter.all false
namespace Go.Proofs.YtijlaopbnigkaaaGreatDoor.walk
open Go Go.Sh
set_option maxRecDepth 100000
structure J51 (pv dv:Value) (ds:List Dt) (y:Int→Int) (p:Int) (n2 n3 b5 c6 L:Nat) (lp:ALoop) (x:Int→Int) (w:AW):Prop where
 g2:w.heap.get n2=some (.cells (pv::dv::arC (owD ds)) 78 false)
 g3:w.heap.get n3=some (.cells (arC y) 76 false)
 g5:w.heap.get b5=some (.cells (arC x) 76 false)
 g6:w.heap.get c6=some (.cells [.int .i64 p] 3 false)
 lo:w.heap.get L=some (.loop lp)
 ord:w.lim≤b5∧n2 < n3∧n3 < b5∧b5 < c6∧c6 < L∧L < w.next
theorem J51.stay {pv dv:Value} {ds:List Dt} {y:Int→Int} {p:Int} {n2 n3 b5 c6 L:Nat} {lp:ALoop} (x:Int→Int) (w w':AW) (h:J51 pv dv ds y p n2 n3 b5 c6 L lp x w) (k:∀ x,x < w.next→w'.heap.get x=w.heap.get x) (hn:w.next≤w'.next) (hl:w'.lim=w.lim):J51 pv dv ds y p n2 n3 b5 c6 L lp x w':=by
 obtain ⟨h1,h2,h3,h4,h5,o1,o2,o3,o4,o5,o6⟩:=h
 exact ⟨by rw [k _ (by omega)]; exact h1,by rw [k _ (by omega)]; exact h2,by rw [k _ (by omega)]; exact h3,by rw [k _ (by omega)]; exact h4,by rw [k _ (by omega)]; exact h5,by omega,o2,o3,o4,o5,by omega⟩
def lsD (ds:List Dt) (y:Int→Int) (p:Int) (x:Int→Int) (d:Dt):Int→Int:=updF x p (x p - ptD (owD ds) y d)
theorem steps28 {ov:Ov} (m:Nat) (h63:HasP ov 50 S50.F) (pv dv:Value) (ps:List Pt) (ds:List Dt) (hk:LK ps ds) (y:Int→Int) (hy:∀ p,0≤y p∧y p≤owD ds p) (we:AW) (hL:LedV we pv dv ps ds) (k:Nat) (hk8:k < 8) (n2 n3 b5 c6 L:Nat) (tm:Tm) (t2:tget tm 2=.pointer (some ⟨n2,0,none⟩)) (t3:tget tm 3=.pointer (some ⟨n3,0,none⟩)) (t5:tget tm 5=.pointer (some ⟨b5,0,none⟩)) (t6:tget tm 6=.pointer (some ⟨c6,0,none⟩)) :
  Steps67 ov (m + 2) L (lsD ds y (k:Int)) (fun x => -10000000≤x (k:Int)∧x (k:Int)≤10000000) (J51 pv dv ds y (k:Int) n2 n3 b5 c6 L ⟨33,tm,[21],(rfOf Tryz.prog 28 0).1,(rfOf Tryz.prog 28 0).2,none,.ready⟩) (fun x=>x=b5∨x=L) ds (k:Int):=by
 intro x d w hd hp hG hG' hJ
 obtain ⟨g2,g3,g5,g6,lo,o1,o2,o3,o4,o5,o6⟩:=hJ
 have hdb:=hk.debt d hd
 have hxf:=hy d.f
 have hol:=hk.ow_le d.f
 have hop:=hk.ow_pos hd
 have hpb:=pt_bd hk hy hd
 have r63:=fun w=>S50.call (P:=Tryz.prog) h63 (m:=m) (w:=w) ⟨pv,dv,owD ds,y,d,rfl,⟨hdb.1.1,by omega⟩,hdb.2.2.2,⟨hxf.1,by omega⟩,by omega,rfl⟩
 obtain ⟨V,hV⟩:∃ V,V=ptD (owD ds) y d:=⟨_,rfl⟩
 obtain ⟨U,hU⟩:∃ U,U=x (k:Int):=⟨_,rfl⟩
 have hgt:=arC_get x hk8
 have elS:lsD ds y (k:Int) x d=updF x (k:Int) (U - V):=by unfold lsD; rw [← hV,← hU]
 rw [← hU] at hgt
 simp only [← hU] at hG
 rw [← hV] at r63 hpb
 have w1':IntKind.wrap .i64 (U - V)=U - V:=wrap64_in (by omega) (by omega)
 have hia6:=fun w a=>ia76 w a .i64 hk8
 have e1:¬ n2=w.next:=by omega
 have e2:¬ n3=w.next:=by omega
 have e3:¬ b5=w.next:=by omega
 have e4:¬ c6=w.next:=by omega
 have e5:¬ L=w.next:=by omega
 have f1:¬ n2=L:=by omega
 have f2:¬ n3=L:=by omega
 have f3:¬ b5=L:=by omega
 have f4:¬ c6=L:=by omega
 have f5:¬ w.next=L:=by omega
 have f6:¬ L=b5:=by omega
 have hlw:w.lim≤w.next:=by omega
 have hlL:w.lim≤L:=by omega
 have q7:k≤7:=by omega
 have s1:=sm61 y
 have s2:=sm63 hL (owD ds)
 have s3:∀ a b c:Int,sameVal 5 (.agg ⟨[.int .i64 a,.int .i64 b,.int .i64 c]⟩) (.agg ⟨[.int .i64 a,.int .i64 b,.int .i64 c]⟩)=true:=fun a b c=>same_agg _ (by
  intro v hv
  simp only [List.mem_cons,List.not_mem_nil,or_false] at hv
  rcases hv with rfl | rfl | rfl <;> exact sameN_int _ _ _)
 obtain ⟨df,dt,dc⟩:=d
 simp only [dtC,l63] at r63
 obtain ⟨j,w',hyl,hQ⟩:=yield_wp (P:=Tryz.prog) (ov:=ov) (m:=m + 1) (l:=L) (args:=[.agg ⟨dtC ⟨df,dt,dc⟩⟩]) (w:=w) (Q:=fun j w'=>j=none∧w'=⟨((((w.heap.put w.next (some (.cells [.int .i64 0,.int .i64 0,.int .i64 0] 53 false))).put w.next (some (.cells [.int .i64 df,.int .i64 dt,.int .i64 dc] 53 false))).put L (some (.loop ⟨33,tm,[21],(rfOf Tryz.prog 28 0).1,(rfOf Tryz.prog 28 0).2,none,.busy⟩))).put b5 (some (.cells (arC (updF x (k:Int) (U - V))) 76 false))).put L (some (.loop ⟨33,tm,[21],(rfOf Tryz.prog 28 0).1,(rfOf Tryz.prog 28 0).2,none,.ready⟩)),w.next + 1,w.lim⟩) lo rfl rfl ta28_0 tb28_0 (by
  simp [mc28_a0,mc28_b0,dtC,lo,hlw,hlL,o1,jumpOf,t2,t3,t5,t6,e1,e2,e3,e4,e5,f1,f2,f3,f4,f5,f6,g2,g3,g5,g6,hia6,hgt,hU.symm,r63,w1',s1,s2,s3,q7,hk8,arC_set])
 obtain ⟨rfl,rfl⟩:=hQ
 refine ⟨_,hyl,⟨?_,?_,?_,?_,?_,⟨o1,o2,o3,o4,o5,by show L < w.next + 1; omega⟩⟩,fun z hz hM=>?_,by show w.next≤w.next + 1; omega,rfl⟩
 ·simp [e1,f1,g2,show ¬ n2=b5 by omega]
 ·simp [e2,f2,g3,show ¬ n3=b5 by omega]
 ·simp [f3,elS]
 ·simp [e4,f4,g6,show ¬ c6=b5 by omega]
 ·simp
 ·have q1:¬ z=b5:=fun h=>hM (.inl h)
  have q2:¬ z=L:=fun h=>hM (.inr h)
  simp [q1,q2,show ¬ z=w.next by omega]
theorem foP51 (ds:List Dt) (y:Int→Int) (p:Int) (x:Int→Int):∀ l:List Dt,(ofP l p).foldl (lsD ds y p) x=updF x p (x p - sI (fun d=>if d.f=p then ptD (owD ds) y d else 0) l):=by
 intro l
 induction l using snoc_ind with
 | h0 =>
  funext q
  simp [ofP,updF,sI]
  intro h; rw [h]
 | h1 l a ih =>
  unfold ofP at ih ⊢
  rw [List.filter_append,List.foldl_append,ih,sI_app]
  by_cases e:a.f=p
  ·simp only [List.filter_cons,List.filter_nil,e,decide_true,if_true,List.foldl_cons,List.foldl_nil,sI]
   funext q
   unfold lsD updF
   by_cases hq:q=p
   ·subst hq; simp only [if_true]; omega
   ·simp only [if_neg hq]
  ·simp only [List.filter_cons,List.filter_nil,decide_eq_false e,sI,if_neg e]
   simp only [Bool.false_eq_true,if_false,List.foldl_nil]
   funext q
   unfold updF
   split <;> omega
def loF (ps:List Pt) (ds:List Dt) (x:Int→Int) (i:Nat):Int→Int:=fun p=>if p < (i:Int) then leD ps ds x p else haD ps ds x p
theorem ou_out {ps:List Pt} {ds:List Dt} (hk:LK ps ds) (x:Int→Int) {p:Int} (hp:p < 0∨(ps.length:Int)≤p):ouD ds x p=0:=by
 unfold ouD
 rw [sI_congr (k:=fun _=>0),sI_zero]
 intro d hd
 have:=(hk.debt d hd).1
 rw [if_neg (by omega)]
theorem loF_zero {ps:List Pt} {ds:List Dt} (hk:LK ps ds) (x:Int→Int):loF ps ds x 0=haD ps ds x:=by
 funext p
 unfold loF
 split
 ·unfold leD; rw [ou_out hk x (.inl (by omega))]; omega
 ·rfl
theorem loF_all {ps:List Pt} {ds:List Dt} (hk:LK ps ds) (x:Int→Int):loF ps ds x ps.length=leD ps ds x:=by
 funext p
 unfold loF
 split
 ·rfl
 ·unfold leD; rw [ou_out hk x (.inr (by omega))]; omega
theorem loF_step (ps:List Pt) (ds:List Dt) (x:Int→Int) (i:Nat):updF (loF ps ds x i) (i:Int) (loF ps ds x i (i:Int) - ouD ds x (i:Int))=loF ps ds x (i + 1):=by
 funext p
 unfold updF loF
 by_cases h1:p=(i:Int)
 ·subst h1
  rw [if_pos rfl,if_neg (by omega),if_pos (by omega)]; rfl
 ·rw [if_neg h1]
  by_cases h2:p < (i:Int)
  ·rw [if_pos h2,if_pos (by omega)]
  ·rw [if_neg h2,if_neg (by omega)]
theorem ouT_bd {ps:List Pt} {ds:List Dt} (hk:LK ps ds) {y:Int→Int} (hy:∀ p,0≤y p∧y p≤owD ds p) (p:Int) (j:Nat):0≤sI (fun d=>if d.f=p then ptD (owD ds) y d else 0) (ds.take j)∧sI (fun d=>if d.f=p then ptD (owD ds) y d else 0) (ds.take j)≤1600000:=sI_bd (fun d hd=>by
 have:=pt_bd hk hy (List.mem_of_mem_take hd)
 show 0≤(if d.f=p then ptD (owD ds) y d else 0)∧(if d.f=p then ptD (owD ds) y d else 0)≤100000
 split <;> omega) (by have:=hk.d16; rw [List.length_take]; omega)
theorem loop28 {ov:Ov} (m:Nat) (ho61:∀ args w,ov 46 args w=none) (ho74:∀ args w,ov 67 args w=none) (h63:HasP ov 50 S50.F) (pv dv:Value) (ps:List Pt) (ds:List Dt) (hk:LK ps ds) (y:Int→Int) (hy:∀ p,0≤y p∧y p≤owD ds p) (w w1:AW) (hL:LedV w pv dv ps ds) (hl:w.lim≤w.next) (u1:Up w w1) (n1:w1.next=w.next + 4)
  (a2:w1.heap.get w.next=some (.cells (pv::dv::arC (owD ds)) 78 false)) (a3:w1.heap.get (w.next + 1)=some (.cells (arC y) 76 false)) (a5:w1.heap.get (w.next + 3)=some (.cells (arC (haD ps ds y)) 76 false))
  (Q:Ex→Tm→AW→Prop) (t:Tm) (t2:tget t 2=.pointer (some ⟨w.next,0,none⟩)) (t3:tget t 3=.pointer (some ⟨w.next + 1,0,none⟩)) (t4:tget t 4=.pointer (some ⟨w.next + 2,0,none⟩)) (t5:tget t 5=.pointer (some ⟨w.next + 3,0,none⟩)) (t14:tget t 14=.int .i64 (ps.length:Nat)) (t15:tget t 15=.int .i64 0)
  (hQ:∀ t w',Kp (w.next + 3) w1 w'→w'.heap.get (w.next + 3)=some (.cells (arC (leD ps ds y)) 76 false)→tget t 4=.pointer (some ⟨w.next + 2,0,none⟩)→tget t 5=.pointer (some ⟨w.next + 3,0,none⟩)→Q (.exit 0) t w'):wp (exY Tryz.prog (run Tryz.prog ov (m + 3)) (.loop mc28_l0) t w1) Q:=by
 have h8:=hk.n8
 have h16:=hk.d16
 refine wp_roundsY (fun i t w'=>Kp (w.next + 3) w1 w'∧w'.heap.get (w.next + 3)=some (.cells (arC (loF ps ds y i)) 76 false)∧tget t 2=.pointer (some ⟨w.next,0,none⟩)∧tget t 3=.pointer (some ⟨w.next + 1,0,none⟩)∧tget t 4=.pointer (some ⟨w.next + 2,0,none⟩)∧tget t 5=.pointer (some ⟨w.next + 3,0,none⟩)∧tget t 14=.int .i64 (ps.length:Nat)∧tget t 15=.int .i64 (i:Nat)∧i≤ps.length) 20 (by decide) ⟨Kp.refl _ _,by rw [loF_zero hk]; exact a5,t2,t3,t4,t5,t14,by simpa using t15,Nat.zero_le _⟩ ?_
 clear t2 t3 t4 t5 t14 t15
 rintro i t w' ⟨hkp,g5,t2,t3,t4,t5,t14,t15,hi⟩
 have hw1':IntKind.wrap .i64 ((i:Int) + 1)=(i:Int) + 1:=wrap64_in (by omega) (by omega)
 have hlm:=hkp.lim
 have hnx:=hkp.next
 have hul:=u1.lim
 have hun:=u1.next
 by_cases hlt:i < ps.length
 ·have b2:=hkp.old w.next (by omega) (by omega)
  rw [a2] at b2
  have b3:=hkp.old (w.next + 1) (by omega) (by omega)
  rw [a3] at b3
  have e1:¬ w.next=w'.next:=by omega
  have e5:w'.lim≤w'.next:=by omega
  obtain ⟨_,_,c61,rfl,rfl⟩:=call46 (ov:=ov) (m + 2) ho61 pv dv (owD ds) i ⟨(w'.heap.put w'.next (some (.cells [.int .i64 0] 3 false))).put w'.next (some (.cells [.int .i64 (i:Nat)] 3 false)),w'.next + 1,w'.lim⟩
  simp only [l63,Nat.add_assoc,Nat.reduceAdd] at c61
  simp [mc28_l0,t2,t3,t4,t5,t14,t15,hlt,b2,e1,e5,c61]
  obtain ⟨H,hH⟩:∃ H,H=(((w'.heap.put w'.next (some (.cells [.int .i64 0] 3 false))).put w'.next (some (.cells [.int .i64 (i:Nat)] 3 false))).put (w'.next + 1) (some (.cells (pv::dv::arC (owD ds)) 78 false))).put (w'.next + 2) (some (.cells [.int .i64 (i:Nat)] 3 false)):=⟨_,rfl⟩
  rw [← hH]
  have hH':∀ x,x < w'.next→H.get x=w'.heap.get x:=fun x h1=>by
   rw [hH]; simp [show ¬ x=w'.next by omega,show ¬ x=w'.next + 1 by omega,show ¬ x=w'.next + 2 by omega]
  have g6:H.get w'.next=some (.cells [.int .i64 (i:Nat)] 3 false):=by rw [hH]; simp
  have gy:H.get (w'.next + 1)=some (.cells (l63 pv dv (owD ds)) 78 false):=by rw [hH]; simp [l63]
  have gi:H.get (w'.next + 2)=some (.cells [.int .i64 (i:Nat)] 3 false):=by rw [hH]; simp
  refine wp_seqX (wp_blockX (wp_blockX (rf_wp (g:=67) (gargs:=[.func (.yield (w'.next + 3)) ⟨[]⟩ ⟨[]⟩,.pointer (some ⟨w'.next + 1,0,none⟩),.pointer (some ⟨w'.next + 2,0,none⟩)]) ?_ ?_)))
  ·simp [callV_func]
  ·generalize hTT:tset _ 20 _=TT
   have v2:tget TT 2=.pointer (some ⟨w.next,0,none⟩):=by rw [← hTT]; simp [t2]
   have v3:tget TT 3=.pointer (some ⟨w.next + 1,0,none⟩):=by rw [← hTT]; simp [t3]
   have v4:tget TT 4=.pointer (some ⟨w.next + 2,0,none⟩):=by rw [← hTT]; simp [t4]
   have v5:tget TT 5=.pointer (some ⟨w.next + 3,0,none⟩):=by rw [← hTT]; simp [t5]
   have v6:tget TT 6=.pointer (some ⟨w'.next,0,none⟩):=by rw [← hTT]; simp
   have v14:tget TT 14=.int .i64 (ps.length:Nat):=by rw [← hTT]; simp [t14]
   have v15:tget TT 15=.int .i64 (i:Nat):=by rw [← hTT]; simp [t15]
   clear hTT
   have hst:=steps28 (ov:=ov) m h63 pv dv ps ds hk y hy w hL i (by omega) w.next (w.next + 1) (w.next + 3) w'.next (w'.next + 3) TT v2 v3 v5 v6
   obtain ⟨w0,ew0⟩:∃ w0:AW,w0=⟨H.put (w'.next + 3) (some (.loop ⟨33,TT,[21],(rfOf Tryz.prog 28 0).1,(rfOf Tryz.prog 28 0).2,none,.ready⟩)),w'.next + 3 + 1,w'.lim⟩:=⟨_,rfl⟩
   have n0:w0.next=w'.next + 3 + 1:=by rw [ew0]
   have l0:w0.lim=w'.lim:=by rw [ew0]
   have hgo:∀ x,x < w'.next + 3→w0.heap.get x=H.get x:=fun x hx=>by rw [ew0]; show (H.put _ _).get x=_; rw [get_put,if_neg (by omega)]
   have hJ0:J51 pv dv ds y (i:Int) w.next (w.next + 1) (w.next + 3) w'.next (w'.next + 3) ⟨33,TT,[21],(rfOf Tryz.prog 28 0).1,(rfOf Tryz.prog 28 0).2,none,.ready⟩ (loF ps ds y i) w0 :=
    ⟨by rw [hgo _ (by omega),hH' _ (by omega)]; exact b2,by rw [hgo _ (by omega),hH' _ (by omega)]; exact b3,by rw [hgo _ (by omega),hH' _ (by omega)]; exact g5,by rw [hgo _ (by omega)]; exact g6,by rw [ew0]; show (H.put _ _).get _=_; rw [get_put,if_pos rfl],by omega,by omega,by omega,by omega,by omega,by omega⟩
   have hfo:∀ j,foP (lsD ds y (i:Int)) (loF ps ds y i) ds (i:Int) j=updF (loF ps ds y i) (i:Int) (loF ps ds y i (i:Int) - sI (fun d=>if d.f=(i:Int) then ptD (owD ds) y d else 0) (ds.take j)):=fun j=>by unfold foP; exact foP51 ds y (i:Int) _ _
   have hloi:loF ps ds y i (i:Int)=haD ps ds y (i:Int):=by unfold loF; rw [if_neg (by omega)]
   have hha:=hk.ha_in hy (i:Int)
   obtain ⟨v,w2,hc,hJ2,hk2,hn2,hl2⟩:=call67 (ov:=ov) (m + 1) ho74 (lsD ds y (i:Int)) (fun x => -10000000≤x (i:Int)∧x (i:Int)≤10000000) (J51 pv dv ds y (i:Int) w.next (w.next + 1) (w.next + 3) w'.next (w'.next + 3) ⟨33,TT,[21],(rfOf Tryz.prog 28 0).1,(rfOf Tryz.prog 28 0).2,none,.ready⟩) (fun x=>x=w.next + 3∨x=w'.next + 3) (w'.next + 3) pv dv (owD ds) ds h16 (i:Int) hst w w0 (by omega) hL.d (by omega) (fun x hx=>by omega) (fun x hx=>by rw [hgo x (by omega),hH' x (by omega)]; exact (hkp.up u1 (by omega)).at hx) (fun st w w' h k hn hl=>J51.stay st w w' h k hn hl) (w'.next + 1) (w'.next + 2) (by rw [hgo _ (by omega)]; exact gy) (by omega) (by omega) (by rw [hgo _ (by omega)]; exact gi) (loF ps ds y i) (fun j hj=>by
     have hb:=ouT_bd hk hy (i:Int) j
     simp only [hfo,updF,if_true,hloi]
     omega) hJ0
   rw [ew0] at hc
   rw [hfo,List.take_length] at hJ2
   obtain ⟨_,_,k5,_,lo,o1,o2,o3,o4,o5,o6⟩:=hJ2
   have ho:=loF_step ps ds y i
   unfold ouD at ho
   rw [ho] at k5
   refine ⟨v,w2,hc,_,lo,rfl,by show w2.lim≤w'.next + 3; omega,?_⟩
   simp [v2,v3,v4,v5,v14,v15,hw1',k5,show ¬ w.next + 3=w'.next + 3 by omega]
   refine ⟨by omega,⟨fun x h2 h3=>?_,by show w1.next≤w2.next; omega,by show w2.lim=w1.lim; omega⟩,by omega,hlt⟩
   show (w2.heap.put _ _).get x=_
   rw [get_put,if_neg (by omega),hk2 x (by omega) (by omega),hgo x (by omega),hH' x (by omega)]
   exact hkp.old x h2 h3
 ·have hi':i=ps.length:=by omega
  subst hi'
  rw [loF_all hk] at g5
  simp [mc28_l0,t14,t15]
  exact hQ _ _ hkp g5 (by simp [t4]) (by simp [t5])
def S28:PSpec where
 R args w v:=∃ (pv dv:Value) (ps:List Pt) (ds:List Dt) (x:Int→Int),args=[.agg ⟨l63 pv dv (owD ds)⟩,.agg ⟨arC x⟩]∧LedV w pv dv ps ds∧LK ps ds∧(∀ p,0≤x p∧x p≤owD ds p)∧v=.agg ⟨arC (leD ps ds x)⟩
 uniq:=by
  rintro _ _ _ _ ⟨pv,dv,ps,ds,x,rfl,hL,hk,hx,rfl⟩ ⟨pv',dv',ps',ds',x',e,hL',hk',hx',rfl⟩
  simp only [List.cons.injEq,Value.agg.injEq,Array.mk.injEq,and_true] at e
  obtain ⟨e1,e2⟩:=e
  obtain ⟨rfl,rfl,_⟩:=l63_inj e1
  have:=hL.uniqP hL'
  subst this
  have:=hL.uniqD hL'
  subst this
  have:=arC_uniq (z8_of hk hx) (z8_of hk hx') e2
  subst this; rfl
 shut:=by
  rintro _ _ _ ⟨pv,dv,ps,ds,x,h1,h2,h3⟩
  exact ⟨pv,dv,ps,ds,x,h1,h2.shut,h3⟩
theorem run28 {ov:Ov} (ho:∀ args w,ov 28 args w=none) (ho61:∀ args w,ov 46 args w=none) (ho74:∀ args w,ov 67 args w=none) (h44:HasP ov 49 S49.F) (h63:HasP ov 50 S50.F) (pv dv:Value) (ps:List Pt) (ds:List Dt) (x:Int→Int) (w:AW) (hl:w.lim=w.next) (hL:LedV w pv dv ps ds) (hk:LK ps ds) (hx:∀ p,0≤x p∧x p≤owD ds p) :
  ∃ v w',(run Tryz.prog ov 4).call 28 [.agg ⟨l63 pv dv (owD ds)⟩,.agg ⟨arC x⟩] w .none=.ok (.ret v) w' .none∧v=.agg ⟨arC (leD ps ds x)⟩:=by
 refine call_wpY text28 (by simp) (ho _ _) ?_
 have hl22:=fun w2=>len37V (w':=w2) hL.p
 obtain ⟨w1,hw1⟩:∃ w1,w1=(⟨((w.heap.put w.next (some (.cells (pv::dv::arC (owD ds)) 78 false))).put (w.next + 1) (some (.cells (arC x) 76 false))).put (w.next + 1 + 1) (some (.cells (arC fun _=>0) 76 false)),w.next + 1 + 1 + 1,w.lim⟩:AW):=⟨_,rfl⟩
 have u1:Up w w1:=by
  rw [hw1]
  exact (((Up.refl w).put (Nat.le_refl _) (Nat.le_refl _)).put (Nat.le_succ _) (Nat.le_refl _)).put (by omega) (by omega)
 have r44:=S49.call (P:=Tryz.prog) h44 (m:=2) (w:=w1) ⟨pv,dv,ps,ds,x,rfl,hL.up u1,hk,hx,rfl⟩
 have hle3:w.lim≤w.next + 1 + 1 + 1:=by omega
 simp only [l63] at r44
 rw [hw1] at r44
 simp [mc28,cellsOf_agg,l63,al76', -al76,r44,arC_drop,hle3,hl22]
 refine wp_seqX (wp_blockX (loop28 0 ho61 ho74 h63 pv dv ps ds hk x hx w _ hL (Nat.le_of_eq hl) ?_ ?_ ?_ ?_ ?_ _ _ ?_ ?_ ?_ ?_ ?_ ?_ ?_))
 case _=>exact (((((Up.refl w).put (Nat.le_refl _) (Nat.le_refl _)).put (Nat.le_succ _) (Nat.le_refl _)).put (by omega) (Nat.le_refl _)).put (by omega) (Nat.le_refl _)).put (by omega) (by show w.next≤w.next + 1 + 1 + 1 + 1; omega)
 case _=>rfl
 case _=>simp
 case _=>simp
 case _=>simp
 case _=>simp
 case _=>simp
 case _=>simp
 case _=>simp
 case _=>simp
 case _=>simp
 case _ =>
  intro t w' hkp g5 t4 t5
  have hlm:=hkp.lim
  have hnx:w.next + 4≤w'.next:=hkp.next
  have hlm':w'.lim=w.lim:=hlm
  have b4:w'.heap.get (w.next + 2)=some (.cells (arC fun _=>0) 76 false):=by
   rw [hkp.old (w.next + 2) (by show w.next + 2 < w.next + 4; omega) (by omega)]
   simp
  have q4:w'.lim≤w.next + 2:=by omega
  simp [t4,t5,g5,b4,q4,cellsOf_agg,arC_drop,tupV]
noncomputable def lfL (ps:List Pt) (ds:List Dt):List Int:=if chE ps ds=0 then lsF ps.length (leD ps ds (stF ps ds)) else []
set_option maxHeartbeats 1000000 in
theorem call12 {ov:Ov} (m:Nat) (ho22:∀ args w,ov 12 args w=none) (ho40:∀ args w,ov 25 args w=none) (ho61:∀ args w,ov 46 args w=none) (ho74:∀ args w,ov 67 args w=none) (ho43:∀ args w,ov 27 args w=none) (ho64:∀ args w,ov 48 args w=none) (h62:HasP ov 47 S47.F) (h17:HasP ov 24 S24.F) (h49:HasP ov 29 S29.F) (h51:HasP ov 28 S28.F)
  (pv dv:Value) (ps:List Pt) (ds:List Dt) (w:AW) (hl:w.lim≤w.next) (hL:LedV w pv dv ps ds) :
  ∃ v w',(run Tryz.prog ov (m + 4)).call 12 [.agg ⟨[pv,dv]⟩] w .none=.ok (.ret v) w' .none∧∃ v1,v=.tuple ⟨[v1,.int .i64 (chE ps ds)]⟩∧RowsV intC w' v1 (lfL ps ds)∧Up w w':=by
 refine call_wp text12 (by simp) (ho22 _ _) ?_
 have nn:notJunk (.slice none 0 0)=some (.slice none 0 0):=rfl
 obtain ⟨w1,hw1⟩:∃ w1,w1=(⟨w.heap.put w.next (some (.cells [pv,dv] 40 false)),w.next + 1,w.lim⟩:AW):=⟨_,rfl⟩
 have u1:Up w w1:=hw1 ▸ (Up.refl w).add _
 have n1:w1.next=w.next + 1:=by rw [hw1]
 have m1:w1.lim=w.lim:=by rw [hw1]
 have r17:=S24.call (P:=Tryz.prog) h17 (m:=m + 2) ⟨pv,dv,ps,ds,rfl,hL.up u1,rfl⟩
 by_cases hC:chE ps ds=0
 case neg =>
  have e2:lfL ps ds=[]:=by unfold lfL; rw [if_neg hC]
  rw [hw1] at r17
  simp [mc12,cellsOf_agg,r17,hC,nn,tupV,e2]
  rw [hw1] at u1
  exact ⟨.inl ⟨rfl,_,_,rfl⟩,u1⟩
 case pos =>
  have hO:=ch_lk hC
  have hk:LK ps ds:=hO.up (by decide)
  rw [hC] at r17
  obtain ⟨_,w2,c40,rfl,u2⟩:=call25 (ov:=ov) m ho40 ho61 ho74 h62 pv dv ps ds w1 (by omega) (hL.up u1) hk
  have n2:=u2.next
  have m2:=u2.lim
  have q2:w2.lim≤w2.next:=by omega
  have key:∀ cs:List Value,∀ w4:AW,w4=⟨(w2.heap.put w2.next (some (.cells cs 78 false))).put w2.next (some (.cells (l63 pv dv (owD ds)) 78 false)),w2.next + 1,w2.lim⟩→Up w w4∧w4.heap.get w2.next=some (.cells (pv::dv::arC (owD ds)) 78 false):=fun cs w4 e=>by
   rw [e]
   exact ⟨(u1.trans u2).trans (((Up.refl w2).add _).put (Nat.le_refl _) (Nat.le_refl _)),by simp [l63]⟩
  rw [hw1] at r17 c40
  simp only [l63] at c40
  have s3:=sg63 hL (owD ds)
  simp [mc12,cellsOf_agg,r17,c40,q2,s3,l63_take,l63_drop]
  generalize hw4:(⟨(w2.heap.put w2.next (some (.cells [.slice none 0 0,.slice none 0 0,.int .i64 0,.int .i64 0,.int .i64 0,.int .i64 0,.int .i64 0,.int .i64 0,.int .i64 0,.int .i64 0] 78 false))).put w2.next (some (.cells (pv::dv::arC (owD ds)) 78 false)),w2.next + 1,w2.lim⟩:AW)=w4
  obtain ⟨u4,g4⟩:=key _ w4 hw4.symm
  have n4:w4.next=w2.next + 1:=by rw [← hw4]
  have m4:w4.lim=w2.lim:=by rw [← hw4]
  have r49:=S29.call (P:=Tryz.prog) h49 (m:=m + 2) (w:=w4) ⟨pv,dv,ps,ds,rfl,hL.up u4,hk,rfl⟩
  have r51:=S28.call (P:=Tryz.prog) h51 (m:=m + 2) (w:=w4) ⟨pv,dv,ps,ds,stF ps ds,rfl,hL.up u4,hk,st_rng hk,rfl⟩
  have s2:=sm63 hL (owD ds)
  have e2:lfL ps ds=lsF ps.length (leD ps ds (stF ps ds)):=by unfold lfL; rw [if_pos hC]
  obtain ⟨v1,w6,c43,hr1,u6,j1⟩:=call27 (ov:=ov) (m + 1) ho43 ho64 pv dv (owD ds) (leD ps ds (stF ps ds)) ps ds w4 (by omega) (hL.up u4) hO.n1 hO.n8
  simp only [l63] at r49 r51 c43
  simp [r49,r51,g4,c43,s2,j1,hC,tupV,e2]
  exact ⟨hr1,u4.trans u6⟩
noncomputable def shB (ps:List Pt) (ds:List Dt) (i:Nat):Bool:=decide (stF ps ds (i:Int) < owD ds (i:Int))
noncomputable def shP (ps:List Pt) (ds:List Dt) (i:Nat):List Int:=((List.range i).filter (shB ps ds)).map fun (k:Nat)=>(k:Int)
theorem shP_yes {ps:List Pt} {ds:List Dt} {i:Nat} (h:shB ps ds i=true):shP ps ds (i + 1)=shP ps ds i++[(i:Int)]:=by
 unfold shP; rw [List.range_succ,List.filter_append,List.map_append]; simp [h]
theorem shP_no {ps:List Pt} {ds:List Dt} {i:Nat} (h:shB ps ds i=false):shP ps ds (i + 1)=shP ps ds i:=by
 unfold shP; rw [List.range_succ,List.filter_append,List.map_append]; simp [h]
theorem shP_len (ps:List Pt) (ds:List Dt) (i:Nat):(shP ps ds i).length≤i:=by
 unfold shP; rw [List.length_map]
 have:=List.length_filter_le (shB ps ds) (List.range i)
 rwa [List.length_range] at this
theorem call26 {ov:Ov} (m:Nat) (ho:∀ args w,ov 26 args w=none) (h49:HasP ov 29 S29.F) (pv dv:Value) (ps:List Pt) (ds:List Dt) (w:AW) (hl:w.lim≤w.next) (hL:LedV w pv dv ps ds) (hk:LK ps ds) :
  ∃ v w',(run Tryz.prog ov (m + 2)).call 26 [.agg ⟨l63 pv dv (owD ds)⟩] w .none=.ok (.ret v) w' .none∧RowsV intC w' v (shP ps ds ps.length)∧Up w w'∧notJunk v=some v:=by
 refine call_wp text26 (by simp) (ho _ _) ?_
 have hl22:=fun w2=>len37V (w':=w2) hL.p
 have h8:=hk.n8
 obtain ⟨w1,hw1⟩:∃ w1,w1=(⟨w.heap.put w.next (some (.cells (pv::dv::arC (owD ds)) 78 false)),w.next + 1,w.lim⟩:AW):=⟨_,rfl⟩
 have u1:Up w w1:=hw1 ▸ (Up.refl w).add _
 have r49:=S29.call (P:=Tryz.prog) h49 (m:=m) (w:=w1) ⟨pv,dv,ps,ds,rfl,hL.up u1,hk,rfl⟩
 obtain ⟨w2,hw2⟩:∃ w2,w2=(⟨(w1.heap.put (w.next + 1) (some (.cells (arC fun _=>0) 76 false))).put (w.next + 1) (some (.cells (arC (stF ps ds)) 76 false)),w.next + 1 + 1,w.lim⟩:AW):=⟨_,rfl⟩
 have u2:Up w w2:=by
  rw [hw2,hw1]
  exact (((Up.refl w).put (Nat.le_refl _) (Nat.le_refl _)).put (Nat.le_succ _) (Nat.le_refl _)).put (Nat.le_succ _) (by omega)
 have n2:w2.next=w.next + 1 + 1:=by rw [hw2]
 have m2:w2.lim=w.lim:=by rw [hw2]
 have a1:w2.heap.get w.next=some (.cells (pv::dv::arC (owD ds)) 78 false):=by rw [hw2,hw1]; simp
 have a4:w2.heap.get (w.next + 1)=some (.cells (arC (stF ps ds)) 76 false):=by rw [hw2]; simp
 have hle:w.lim≤w.next + 1:=by omega
 rw [hw1] at r49 hw2
 simp only [l63] at r49
 simp [mc26,cellsOf_agg,l63,al76', -al76,r49,arC_drop,hle,hl22]
 rw [← hw2]
 refine wp_seqX (wp_blockX (wp_rounds (fun i t w'=>Up w2 w'∧(∃ B,AccQ intC 3 (w.next + 1) w' (tget t 3) (shP ps ds i) B)∧tget t 1=.pointer (some ⟨w.next,0,none⟩)∧tget t 4=.pointer (some ⟨w.next + 1,0,none⟩)∧tget t 11=.int .i64 (ps.length:Nat)∧tget t 12=.int .i64 (i:Nat)∧i≤ps.length) 20 (by decide) ⟨Up.refl _,⟨0,.inl ⟨by simp [shP],by simp⟩⟩,by simp,by simp,by simp,by simp,Nat.zero_le _⟩ ?_))
 rintro i t w' ⟨hu,⟨B,hacc⟩,t1,t4,t11,t12,hi⟩
 have hw1':IntKind.wrap .i64 ((i:Int) + 1)=(i:Int) + 1:=wrap64_in (by omega) (by omega)
 have hlm:=hu.lim
 have hnx:=hu.next
 by_cases hlt:i < ps.length
 ·have b1:=hu.at (b:=w.next) (by omega)
  rw [a1] at b1
  have b4:=hu.at (b:=w.next + 1) (by omega)
  rw [a4] at b4
  have hi8:i < 8:=by omega
  have hia6:=fun w a=>ia76 w a .i64 hi8
  have hgt:=arC_get (stF ps ds) hi8
  have hgo:=l63_at pv dv (owD ds) hi8
  have hb:shB ps ds i=decide (stF ps ds (i:Int) < owD ds (i:Int)):=rfl
  obtain ⟨S,hS⟩:∃ S,S=stF ps ds (i:Int):=⟨_,rfl⟩
  obtain ⟨O,hO⟩:∃ S,S=owD ds (i:Int):=⟨_,rfl⟩
  rw [← hS] at hgt hb
  rw [← hO] at hgo hb
  by_cases hc:S < O
  ·rw [decide_eq_true hc] at hb
   have hst:=shP_yes hb
   obtain ⟨v',w4,hap,⟨B',hB',hacc'⟩,hkp,hn4,hl4⟩:=AccQ.push2 (P:=Tryz.prog) (st:=23) (sz:=1) list26 elem23 size3 small3 intC_length (fun _=>by simp [intC]) (by decide) hacc (by omega) (by omega) (by have:=shP_len ps ds i; omega) (i:Int)
   rw [← hst] at hacc'
   simp only [intC] at hap
   simp [mc26_l0,t1,t4,t11,t12,hlt,b1,b4,hia6,hgt,hgo,hS.symm,hO.symm,hc,hap,hw1']
   exact ⟨by omega,⟨fun x hx=>by rw [hkp x (by omega) (fun hne=>by have:=hacc.lt hne; omega)]; exact hu.at hx,by omega,by omega⟩,⟨B',hacc'⟩,hlt⟩
  ·rw [decide_eq_false hc] at hb
   have hst:=shP_no hb
   rw [← hst] at hacc
   simp [mc26_l0,t1,t4,t11,t12,hlt,b1,b4,hia6,hgt,hgo,hS.symm,hO.symm,hc,hw1']
   exact ⟨by omega,hu,⟨B,hacc⟩,hlt⟩
 ·have hi':i=ps.length:=by omega
  subst hi'
  have hok:=hacc.ok
  simp [mc26_l0,t11,t12,hok,tupV]
  exact ⟨hacc.rows,u2.trans hu⟩
noncomputable def shL (ps:List Pt) (ds:List Dt):List Int:=if chE ps ds=0 then shP ps ds ps.length else []
theorem call11 {ov:Ov} (m:Nat) (ho24:∀ args w,ov 11 args w=none) (ho40:∀ args w,ov 25 args w=none) (ho61:∀ args w,ov 46 args w=none) (ho74:∀ args w,ov 67 args w=none) (ho52:∀ args w,ov 26 args w=none) (h62:HasP ov 47 S47.F) (h17:HasP ov 24 S24.F) (h49:HasP ov 29 S29.F)
  (pv dv:Value) (ps:List Pt) (ds:List Dt) (w:AW) (hl:w.lim≤w.next) (hL:LedV w pv dv ps ds) :
  ∃ v w',(run Tryz.prog ov (m + 4)).call 11 [.agg ⟨[pv,dv]⟩] w .none=.ok (.ret v) w' .none∧∃ v1,v=.tuple ⟨[v1,.int .i64 (chE ps ds)]⟩∧RowsV intC w' v1 (shL ps ds)∧Up w w':=by
 refine call_wp text11 (by simp) (ho24 _ _) ?_
 have nn:notJunk (.slice none 0 0)=some (.slice none 0 0):=rfl
 obtain ⟨w1,hw1⟩:∃ w1,w1=(⟨w.heap.put w.next (some (.cells [pv,dv] 40 false)),w.next + 1,w.lim⟩:AW):=⟨_,rfl⟩
 have u1:Up w w1:=hw1 ▸ (Up.refl w).add _
 have n1:w1.next=w.next + 1:=by rw [hw1]
 have m1:w1.lim=w.lim:=by rw [hw1]
 have r17:=S24.call (P:=Tryz.prog) h17 (m:=m + 2) ⟨pv,dv,ps,ds,rfl,hL.up u1,rfl⟩
 by_cases hC:chE ps ds=0
 case neg =>
  have e2:shL ps ds=[]:=by unfold shL; rw [if_neg hC]
  rw [hw1] at r17
  simp [mc11,cellsOf_agg,r17,hC,nn,tupV,e2]
  rw [hw1] at u1
  exact ⟨.inl ⟨rfl,_,_,rfl⟩,u1⟩
 case pos =>
  have hO:=ch_lk hC
  have hk:LK ps ds:=hO.up (by decide)
  rw [hC] at r17
  obtain ⟨_,w2,c40,rfl,u2⟩:=call25 (ov:=ov) m ho40 ho61 ho74 h62 pv dv ps ds w1 (by omega) (hL.up u1) hk
  have n2:=u2.next
  have m2:=u2.lim
  obtain ⟨v1,w3,c52,hr1,u3,j1⟩:=call26 (ov:=ov) (m + 1) ho52 h49 pv dv ps ds w2 (by omega) (hL.up (u1.trans u2)) hk
  have e2:shL ps ds=shP ps ds ps.length:=by unfold shL; rw [if_pos hC]
  rw [hw1] at r17 c40
  simp only [l63] at c40 c52
  simp [mc11,cellsOf_agg,r17,c40,c52,j1,hC,tupV,e2]
  exact ⟨hr1,(u1.trans u2).trans u3⟩
section
variable {M:Int} {ps:List Pt} {ds:List Dt}
def inA (ds:List Dt) (p:Int):Int:=sI (fun d=>if d.t=p then d.c else 0) ds
theorem in_all (h:LOk M ps ds) (p:Int):inD ds (owD ds) p=inA ds p:=sI_congr fun d hd=>by
 show (if d.t=p then ptD (owD ds) (owD ds) d else 0)=(if d.t=p then d.c else 0)
 rw [h.pt_all hd rfl]
theorem ou_all (h:LOk M ps ds) (p:Int):ouD ds (owD ds) p=owD ds p:=sI_congr fun d hd=>by
 show (if d.f=p then ptD (owD ds) (owD ds) d else 0)=(if d.f=p then d.c else 0)
 rw [h.pt_all hd rfl]
theorem full_gfp (h:LOk M ps ds) (hf:∀ p,owD ds p≤caP ps p + inA ds p):GfpD ps ds (owD ds) :=
 ⟨fun p=>⟨h.ow_nonneg p,Int.le_refl _,by unfold haD; rw [in_all h]; exact hf p⟩,fun q hq p=>(hq p).2.1⟩
theorem full_st (h:LOk M ps ds) (hf:∀ p,owD ds p≤caP ps p + inA ds p):stF ps ds=owD ds:=(st_of (full_gfp h hf)).symm
theorem full_paid (h:LOk M ps ds):paF ds (owD ds)=ds.map Dt.c:=List.map_congr_left fun d hd=>h.pt_all hd rfl
theorem full_left (h:LOk M ps ds) (p:Int):leD ps ds (owD ds) p=caP ps p + inA ds p - owD ds p:=by
 unfold leD haD
 rw [in_all h,ou_all h]
end
def lend1 (k:Nat) (x:Int × Int):List Dt:=(if 0 < x.1 then [⟨(k:Int) + 1,0,x.1⟩] else [])++(if 0 < x.2 then [⟨0,(k:Int) + 1,x.2⟩] else [])
def lendD:Nat→List (Int × Int)→List Dt
 | _,[]=>[]
 | k,x::l=>lend1 k x++lendD (k + 1) l
theorem lend_app (x:Int × Int):∀ (l:List (Int × Int)) (k:Nat),lendD k (l++[x])=lendD k l++lend1 (k + l.length) x
 | [],k=>by simp [lendD]
 | y::l,k=>by
  rw [List.cons_append]
  simp only [lendD]
  rw [lend_app x l (k + 1),List.append_assoc,List.length_cons]
  rw [show k + 1 + l.length=k + (l.length + 1) by omega]
theorem sI_lend1 (g:Dt→Int) (k:Nat) (x:Int × Int):sI g (lend1 k x)=(if 0 < x.1 then g ⟨(k:Int) + 1,0,x.1⟩ else 0) + (if 0 < x.2 then g ⟨0,(k:Int) + 1,x.2⟩ else 0):=by
 unfold lend1
 rw [sI_app]
 split <;> split <;> simp [sI]
def Nn (l:List (Int × Int)):Prop:=∀ x ∈ l,0≤x.1∧0≤x.2
theorem ow_lend0:∀ (l:List (Int × Int)) (k:Nat),Nn l→owD (lendD k l) 0=(l.map (·.2)).sum
 | [],_,_=>rfl
 | x::l,k,h=>by
  have hx:=h x (.head _)
  have ih:=ow_lend0 l (k + 1) fun y hy=>h y (.tail _ hy)
  unfold owD at ih ⊢
  simp only [lendD,sI_app,sI_lend1,ih,List.map_cons,List.sum_cons]
  have e:¬ (k:Int) + 1=0:=by omega
  simp only [e,if_false,if_true]
  split <;> split <;> omega
theorem in_lend0:∀ (l:List (Int × Int)) (k:Nat),Nn l→inA (lendD k l) 0=(l.map (·.1)).sum
 | [],_,_=>rfl
 | x::l,k,h=>by
  have hx:=h x (.head _)
  have ih:=in_lend0 l (k + 1) fun y hy=>h y (.tail _ hy)
  unfold inA at ih ⊢
  simp only [lendD,sI_app,sI_lend1,ih,List.map_cons,List.sum_cons]
  have e:¬ (k:Int) + 1=0:=by omega
  simp only [e,if_false,if_true]
  split <;> split <;> omega
theorem ow_lo:∀ (l:List (Int × Int)) (k:Nat) (p:Int),0 < p→p≤k→owD (lendD k l) p=0∧inA (lendD k l) p=0
 | [],_,_,_,_=>⟨rfl,rfl⟩
 | x::l,k,p,h0,hp=>by
  obtain ⟨i1,i2⟩:=ow_lo l (k + 1) p h0 (by omega)
  unfold owD inA at *
  simp only [lendD,sI_app,sI_lend1,i1,i2]
  have e:¬ (k:Int) + 1=p:=by omega
  have e':¬ (0:Int)=p:=by omega
  simp only [e,e',if_false]
  constructor <;> split <;> split <;> rfl
theorem ow_lend:∀ (l:List (Int × Int)) (k:Nat),Nn l→∀ (i:Nat) (p:Int),p=(k:Int) + i + 1→owD (lendD k l) p=((l[i]?).map (·.1)).getD 0∧inA (lendD k l) p=((l[i]?).map (·.2)).getD 0
 | [],_,_,_,_,_=>⟨rfl,rfl⟩
 | x::l,k,h,0,p,hp=>by
  have hx:=h x (.head _)
  obtain ⟨i1,i2⟩:=ow_lo l (k + 1) p (by omega) (by omega)
  unfold owD inA at *
  simp only [lendD,sI_app,sI_lend1,i1,i2]
  have e:(k:Int) + 1=p:=by omega
  have e':¬ (0:Int)=p:=by omega
  simp only [e,e',if_false,if_true,List.getElem?_cons_zero,Option.map_some,Option.getD_some]
  constructor <;> split <;> split <;> omega
 | x::l,k,h,i + 1,p,hp=>by
  obtain ⟨i1,i2⟩:=ow_lend l (k + 1) (fun y hy=>h y (.tail _ hy)) i p (by omega)
  unfold owD inA at *
  simp only [lendD,sI_app,sI_lend1,i1,i2]
  have e:¬ (k:Int) + 1=p:=by omega
  have e':¬ (0:Int)=p:=by omega
  simp only [e,e',if_false,List.getElem?_cons_succ]
  constructor <;> split <;> split <;> simp
theorem ow_neg:∀ (l:List (Int × Int)) (k:Nat) (p:Int),p < 0→owD (lendD k l) p=0
 | [],_,_,_=>rfl
 | x::l,k,p,h0=>by
  have i1:=ow_neg l (k + 1) p h0
  unfold owD at *
  simp only [lendD,sI_app,sI_lend1,i1]
  have e:¬ (k:Int) + 1=p:=by omega
  have e':¬ (0:Int)=p:=by omega
  simp only [e,e',if_false]
  split <;> split <;> rfl
structure Lent (cash:Int) (ps:List Pt) (l:List (Int × Int)):Prop where
 c0:caP ps 0=cash
 cp:∀ p,0 < p→caP ps p=0
 fit:∀ x ∈ l,0≤x.1∧x.1≤x.2
 sum:(l.map (·.2)).sum≤cash + (l.map (·.1)).sum
theorem Lent.nn {cash:Int} {ps:List Pt} {l:List (Int × Int)} (h:Lent cash ps l):Nn l:=fun x hx=>⟨(h.fit x hx).1,by have:=h.fit x hx; omega⟩
theorem Lent.fits {cash:Int} {ps:List Pt} {l:List (Int × Int)} (h:Lent cash ps l) (p:Int):owD (lendD 0 l) p≤caP ps p + inA (lendD 0 l) p:=by
 have hs:=h.sum
 by_cases h0:p=0
 ·subst h0
  rw [ow_lend0 l 0 h.nn,in_lend0 l 0 h.nn,h.c0]
  exact hs
 ·by_cases h1:p < 0
  ·rw [ow_neg l 0 p h1]
   have e1:caP ps p=0:=by unfold caP; rw [if_neg (by omega)]
   rw [e1,Int.zero_add]
   unfold inA
   refine sI_nonneg fun d hd=>?_
   have:∀ (l:List (Int × Int)) (k:Nat),∀ d ∈ lendD k l,0≤d.c:=by
    intro l
    induction l with
    | nil=>intro k d hd; cases hd
    | cons x l ih =>
     intro k d hd
     simp only [lendD,lend1,List.mem_append] at hd
     rcases hd with (hd | hd) | hd
     ·split at hd
      ·simp at hd; rw [hd]; show 0≤x.1; omega
      ·cases hd
     ·split at hd
      ·simp at hd; rw [hd]; show 0≤x.2; omega
      ·cases hd
     ·exact ih (k + 1) d hd
   split
   ·exact this l 0 d hd
   ·exact Int.le_refl _
  ·obtain ⟨i,hi⟩:∃ i:Nat,p=(0:Nat) + (i:Int) + 1:=⟨(p - 1).toNat,by omega⟩
   obtain ⟨e1,e2⟩:=ow_lend l 0 h.nn i p hi
   rw [e1,e2,h.cp p (by omega),Int.zero_add]
   cases hx:l[i]? with
   | none=>exact Int.le_refl _
   | some x=>exact (h.fit x (List.mem_of_getElem? hx)).2
theorem Lent.left0 {M cash:Int} {ps:List Pt} {l:List (Int × Int)} (h:Lent cash ps l) (hk:LOk M ps (lendD 0 l)):leD ps (lendD 0 l) (owD (lendD 0 l)) 0=cash - (l.map fun x=>x.2 - x.1).sum:=by
 rw [full_left hk,h.c0,ow_lend0 l 0 h.nn,in_lend0 l 0 h.nn]
 have:∀ l:List (Int × Int),(l.map fun x=>x.2 - x.1).sum=(l.map (·.2)).sum - (l.map (·.1)).sum:=by
  intro l
  induction l with
  | nil=>rfl
  | cons x l ih=>simp only [List.map_cons,List.sum_cons,ih]; omega
 rw [this]; omega
theorem Lent.left1 {M cash:Int} {ps:List Pt} {l:List (Int × Int)} (h:Lent cash ps l) (hk:LOk M ps (lendD 0 l)) {i:Nat} {x:Int × Int} (hx:l[i]?=some x):leD ps (lendD 0 l) (owD (lendD 0 l)) ((i:Int) + 1)=x.2 - x.1:=by
 obtain ⟨e1,e2⟩:=ow_lend l 0 h.nn i ((i:Int) + 1) (by omega)
 rw [full_left hk,h.cp _ (by omega),e1,e2,hx]
 simp
section
variable {M cash:Int} {ps:List Pt} {l:List (Int × Int)}
theorem Lent.st (h:Lent cash ps l) (hk:LOk M ps (lendD 0 l)):stF ps (lendD 0 l)=owD (lendD 0 l):=full_st hk h.fits
theorem Lent.short (h:Lent cash ps l) (hk:LOk M ps (lendD 0 l)) (n:Nat):shP ps (lendD 0 l) n=[]:=by
 have hb:∀ i,shB ps (lendD 0 l) i=false:=fun i=>by
  unfold shB
  rw [h.st hk]
  exact decide_eq_false (Int.lt_irrefl _)
 unfold shP
 rw [List.filter_eq_nil_iff.2 fun i _=>by rw [hb i]; exact Bool.false_ne_true]
 rfl
theorem Lent.paid (h:Lent cash ps l) (hk:LOk M ps (lendD 0 l)):paF (lendD 0 l) (stF ps (lendD 0 l))=(lendD 0 l).map Dt.c:=by
 rw [h.st hk]; exact full_paid hk
theorem Lent.leftL (h:Lent cash ps l) (hk:LOk M ps (lendD 0 l)):lsF (l.length + 1) (leD ps (lendD 0 l) (stF ps (lendD 0 l)))=(cash - (l.map fun x=>x.2 - x.1).sum)::l.map fun x=>x.2 - x.1:=by
 rw [h.st hk]
 unfold lsF
 rw [List.range_succ_eq_map,List.map_cons,List.map_map]
 congr 1
 ·exact h.left0 hk
 ·refine List.ext_getElem? fun i=>?_
  rw [List.getElem?_map,List.getElem?_map]
  by_cases hi:i < l.length
  ·rw [List.getElem?_range hi,List.getElem?_eq_getElem hi]
   simp only [Option.map_some,Function.comp]
   congr 1
   exact h.left1 hk (List.getElem?_eq_getElem hi)
  ·rw [List.getElem?_eq_none (by simpa using hi),List.getElem?_eq_none (by simpa using hi)]
   rfl
end
theorem lend1_mem {k:Nat} {x:Int × Int} {d:Dt} (h:d ∈ lend1 k x):(d=⟨(k:Int) + 1,0,x.1⟩∧0 < x.1)∨(d=⟨0,(k:Int) + 1,x.2⟩∧0 < x.2):=by
 unfold lend1 at h
 rcases List.mem_append.1 h with h | h
 ·split at h
  ·exact .inl ⟨by simpa using h,by assumption⟩
  ·cases h
 ·split at h
  ·exact .inr ⟨by simpa using h,by assumption⟩
  ·cases h
theorem lend_mem:∀ (l:List (Int × Int)) (k:Nat) (d:Dt),d ∈ lendD k l→0 < d.c∧((d.t=0∧(k:Int) < d.f∧d.f≤k + l.length)∨(d.f=0∧(k:Int) < d.t∧d.t≤k + l.length))∧∃ x ∈ l,d.c=x.1∨d.c=x.2
 | [],_,_,h=>by cases h
 | x::l,k,d,h=>by
  simp only [lendD] at h
  rcases List.mem_append.1 h with h | h
  ·rcases lend1_mem h with ⟨rfl,h0⟩ | ⟨rfl,h0⟩
   ·exact ⟨h0,.inl ⟨rfl,by show (k:Int) < k + 1; omega,by show (k:Int) + 1≤_; simp only [List.length_cons]; omega⟩,x,.head _,.inl rfl⟩
   ·exact ⟨h0,.inr ⟨rfl,by show (k:Int) < k + 1; omega,by show (k:Int) + 1≤_; simp only [List.length_cons]; omega⟩,x,.head _,.inr rfl⟩
  ·obtain ⟨h0,h1,y,hy,h2⟩:=lend_mem l (k + 1) d h
   refine ⟨h0,?_,y,.tail _ hy,h2⟩
   simp only [List.length_cons]
   rcases h1 with ⟨a,b,c⟩ | ⟨a,b,c⟩
   ·exact .inl ⟨a,by omega,by omega⟩
   ·exact .inr ⟨a,by omega,by omega⟩
theorem lend_pair:∀ (l:List (Int × Int)) (k:Nat),(lendD k l).Pairwise fun a b=>¬ (a.f=b.f∧a.t=b.t)
 | [],_=>.nil
 | x::l,k=>by
  simp only [lendD]
  refine List.pairwise_append.2 ⟨?_,lend_pair l (k + 1),?_⟩
  ·unfold lend1
   split <;> split <;> simp
   omega
  ·intro a ha b hb
   obtain ⟨_,h1,_⟩:=lend_mem l (k + 1) b hb
   rcases lend1_mem ha with ⟨rfl,_⟩ | ⟨rfl,_⟩
   ·rintro ⟨e1,e2⟩
    simp only at e1 e2
    omega
   ·rintro ⟨e1,e2⟩
    simp only at e1 e2
    omega
theorem lend_len:∀ (l:List (Int × Int)) (k:Nat),(lendD k l).length≤2 * l.length
 | [],_=>by simp [lendD]
 | x::l,k=>by
  have:=lend_len l (k + 1)
  simp only [lendD,List.length_append,List.length_cons]
  have:(lend1 k x).length≤2:=by unfold lend1; split <;> split <;> simp
  omega
theorem lend_debB {ps:List Pt} {l:List (Int × Int)} (hp:ps.length=l.length + 1) (h6:l.length≤6) (hb:∀ x ∈ l,x.1≤100000∧x.2≤100000):debB ps (lendD 0 l)=true:=by
 have hl:=lend_len l 0
 unfold debB
 rw [Bool.and_eq_true,decide_eq_true_eq,List.all_eq_true]
 refine ⟨by omega,fun i hi=>?_⟩
 have hi:=List.mem_range.1 hi
 unfold dtB
 rw [List.getElem?_eq_getElem hi]
 obtain ⟨h0,h1,x,hx,h2⟩:=lend_mem l 0 _ (List.getElem_mem hi)
 have:=hb x hx
 have hps:(ps.length:Int) - 1=l.length:=by omega
 simp only [hps,inI,Bool.and_eq_true,decide_eq_true_eq,Bool.not_eq_true',decide_eq_false_iff_not,List.all_eq_true]
 refine ⟨⟨by omega,by omega⟩,⟨by omega,by omega⟩,by omega,⟨by omega,by omega⟩,fun j hj=>?_⟩
 have hj:=List.mem_range.1 hj
 unfold dsB
 rw [List.getElem?_eq_getElem (Nat.lt_trans hj hi)]
 have:=List.pairwise_iff_getElem.1 (lend_pair l 0) j i (Nat.lt_trans hj hi) hi hj
 simp only [Bool.not_eq_true',Bool.and_eq_false_iff,decide_eq_false_iff_not]
 by_cases e:((lendD 0 l)[i]).f=((lendD 0 l)[j]).f
 ·right
  intro e2
  exact this ⟨e.symm,e2.symm⟩
 ·exact .inl e
def buyS:ByteArray:=⟨⟨[98,117,121,101,114]⟩⟩
def growS (i:Nat):ByteArray:=⟨⟨[103,114,111,119,101,114,45]++(digS i).data.toList⟩⟩
def partL (cash:Int) (n:Nat):List Pt:=⟨buyS,cash⟩::(List.range n).map fun i=>⟨growS i,0⟩
theorem par_ok {cash:Int} (h:inI 0 cash 100000=true):∀ n,n≤6→parB (partL cash n)=true:=by
 have h0:∀ n,n≤6→prB (partL cash n) 0=true:=fun n _=>by
  show (wordB buyS.data.toList && (!hasT (nmsTo (partL cash n) 0) buyS && inI 0 cash 100000))=true
  rw [h]; rfl
 have key:∀ n,n≤6→∀ i,i < n→prB (partL cash n) (i + 1)=true:=by
  intro n hn i hi
  match n,hn,i,hi with
  | 1,_,0,_=>rfl
  | 2,_,0,_=>rfl
  | 2,_,1,_=>rfl
  | 3,_,0,_=>rfl
  | 3,_,1,_=>rfl
  | 3,_,2,_=>rfl
  | 4,_,0,_=>rfl
  | 4,_,1,_=>rfl
  | 4,_,2,_=>rfl
  | 4,_,3,_=>rfl
  | 5,_,0,_=>rfl
  | 5,_,1,_=>rfl
  | 5,_,2,_=>rfl
  | 5,_,3,_=>rfl
  | 5,_,4,_=>rfl
  | 6,_,0,_=>rfl
  | 6,_,1,_=>rfl
  | 6,_,2,_=>rfl
  | 6,_,3,_=>rfl
  | 6,_,4,_=>rfl
  | 6,_,5,_=>rfl
 intro n hn
 have hl:(partL cash n).length=n + 1:=by simp [partL]
 unfold parB
 rw [Bool.and_eq_true,List.all_eq_true,hl]
 refine ⟨by simp only [inI,Bool.and_eq_true,decide_eq_true_eq]; omega,fun i hi=>?_⟩
 have hi:=List.mem_range.1 hi
 cases i with
 | zero=>exact h0 n hn
 | succ i=>exact key n hn i (by omega)
set_option maxRecDepth 1000000 in
theorem cleared_true:resIs (.bool true) ((run Tryz.prog noOv 1000).call 5 [] (startA 1 laidL) .none)=true:=by kernel_rfl
noncomputable def mc40:MC:=.seq (.ops [⟨false,none,some 6,4,.assign (.const (.bool false))⟩]) (.seq (.ops [⟨false,none,some 7,3,.move (.tmp 1)⟩,⟨false,none,some 8,3,.move (.tmp 0)⟩,⟨false,none,some 9,4,.binOp .leq 3 (.tmp 7) (.tmp 8) 3⟩,⟨false,none,some 10,4,.move (.tmp 9)⟩,⟨false,some (10,true),some 11,3,.move (.tmp 0)⟩,⟨false,some (10,true),some 12,3,.move (.tmp 2)⟩,⟨false,some (10,true),some 13,4,.binOp .leq 3 (.tmp 11) (.tmp 12) 3⟩,⟨false,none,some 14,4,.pick (.tmp 10) (.tmp 13) (.const (.bool false))⟩,⟨false,none,some 6,4,.assign (.tmp 14)⟩]) (.ret))
theorem text40:textF Tryz.prog 40=some (15,[.tmp 6],mc40):=by kernel_rfl
noncomputable def mc3_l0_b5:MC:=.seq (.ops [⟨false,none,some 196,3,.move (.tmp 24)⟩,⟨false,none,some 197,4,.binOp .gtr 3 (.tmp 196) (.const (.int .i64 0)) 3⟩]) (.cond (.tmp 197) (.ops [⟨false,none,some 198,0,.fieldAddr 40 (.tmp 11) 1⟩,⟨false,none,some 199,38,.load 38 (.tmp 198)⟩,⟨false,none,some 200,3,.move (.tmp 16)⟩,⟨false,none,some 201,3,.binOp .add 3 (.tmp 200) (.const (.int .i64 1)) 3⟩,⟨false,none,some 202,3,.move (.tmp 24)⟩,⟨false,none,some 203,53,.build 53 #[(0,.const (.int .i64 0)),(1,.tmp 201),(2,.tmp 202)]⟩,⟨false,none,some 204,38,.buildSlice 38 1 #[(0,.tmp 203)]⟩,⟨false,none,some 205,38,.call ⟨.builtin .append,#[.tmp 199,.tmp 204],#[38,38]⟩⟩,⟨false,none,some 206,0,.fieldAddr 40 (.tmp 11) 1⟩,⟨false,none,none,0,.store 38 (.tmp 206) (.tmp 205)⟩]) (.skip))
noncomputable def mc3_l0_b4:MC:=.seq (.seq (.ops [⟨false,none,some 185,3,.move (.tmp 23)⟩,⟨false,none,some 186,4,.binOp .gtr 3 (.tmp 185) (.const (.int .i64 0)) 3⟩]) (.cond (.tmp 186) (.ops [⟨false,none,some 187,0,.fieldAddr 40 (.tmp 11) 1⟩,⟨false,none,some 188,38,.load 38 (.tmp 187)⟩,⟨false,none,some 189,3,.move (.tmp 16)⟩,⟨false,none,some 190,3,.binOp .add 3 (.tmp 189) (.const (.int .i64 1)) 3⟩,⟨false,none,some 191,3,.move (.tmp 23)⟩,⟨false,none,some 192,53,.build 53 #[(0,.tmp 190),(1,.const (.int .i64 0)),(2,.tmp 191)]⟩,⟨false,none,some 193,38,.buildSlice 38 1 #[(0,.tmp 192)]⟩,⟨false,none,some 194,38,.call ⟨.builtin .append,#[.tmp 188,.tmp 193],#[38,38]⟩⟩,⟨false,none,some 195,0,.fieldAddr 40 (.tmp 11) 1⟩,⟨false,none,none,0,.store 38 (.tmp 195) (.tmp 194)⟩]) (.skip))) mc3_l0_b5
noncomputable def mc3_l0_b3:MC:=.seq (.seq (.ops [⟨true,none,some 176,0,.fieldAddr 40 (.tmp 11) 0⟩]) (.seq (.ops [⟨true,none,some 177,37,.load 37 (.tmp 176)⟩]) (.seq (.ops [⟨true,none,some 178,3,.move (.tmp 16)⟩]) (.seq (.ops [⟨false,none,some 179,9,.call ⟨.value (.func 10),#[.tmp 178],#[3]⟩⟩]) (.seq (.ops [⟨true,none,some 180,9,.binOp .add 9 (.const (.string ⟨⟨[103,114,111,119,101,114,45]⟩⟩)) (.tmp 179) 9⟩]) (.seq (.ops [⟨true,none,some 181,36,.build 36 #[(0,.tmp 180)]⟩]) (.seq (.ops [⟨true,none,some 182,37,.buildSlice 37 1 #[(0,.tmp 181)]⟩]) (.seq (.chk [⟨true,none,some 177,37,.load 37 (.tmp 176)⟩]) (.seq (.ops [⟨false,none,some 183,37,.call ⟨.builtin .append,#[.tmp 177,.tmp 182],#[37,37]⟩⟩]) (.seq (.ops [⟨true,none,some 184,0,.fieldAddr 40 (.tmp 11) 0⟩]) (.seq (.ops [⟨false,none,none,0,.store 37 (.tmp 184) (.tmp 183)⟩]) (.chk [])))))))))))) mc3_l0_b4
noncomputable def mc3_l0_b2:MC:=.seq (.ops [⟨false,none,some 170,23,.move (.tmp 14)⟩,⟨false,none,some 171,3,.move (.tmp 24)⟩,⟨false,none,some 172,3,.move (.tmp 23)⟩,⟨false,none,some 173,3,.binOp .sub 3 (.tmp 171) (.tmp 172) 3⟩,⟨false,none,some 174,23,.buildSlice 23 1 #[(0,.tmp 173)]⟩,⟨false,none,some 175,23,.call ⟨.builtin .append,#[.tmp 170,.tmp 174],#[23,23]⟩⟩,⟨false,none,some 14,23,.assign (.tmp 175)⟩]) mc3_l0_b3
noncomputable def mc3_l0_b1:MC:=.seq (.ops [⟨false,none,some 144,3,.move (.tmp 9)⟩,⟨false,none,some 145,0,.fieldAddr 29 (.tmp 19) 0⟩,⟨false,none,some 146,0,.fieldAddr 27 (.tmp 145) 0⟩,⟨false,none,some 147,3,.load 3 (.tmp 146)⟩,⟨false,none,some 148,3,.binOp .mul 3 (.tmp 144) (.tmp 147) 3⟩,⟨false,none,some 149,3,.move (.tmp 10)⟩,⟨false,none,some 150,3,.binOp .mul 3 (.tmp 148) (.tmp 149) 3⟩,⟨false,none,some 151,3,.binOp .quo 3 (.tmp 150) (.const (.int .i64 1000)) 3⟩,⟨false,none,some 23,3,.assign (.tmp 151)⟩]) (.seq (.ops [⟨false,none,some 152,3,.move (.tmp 9)⟩,⟨false,none,some 153,0,.fieldAddr 47 (.tmp 21) 0⟩,⟨false,none,some 154,3,.load 3 (.tmp 153)⟩,⟨false,none,some 155,3,.binOp .mul 3 (.tmp 152) (.tmp 154) 3⟩,⟨false,none,some 24,3,.assign (.tmp 155)⟩]) (.seq (.ops [⟨false,none,some 156,3,.move (.tmp 12)⟩,⟨false,none,some 157,3,.move (.tmp 9)⟩,⟨false,none,some 158,0,.fieldAddr 29 (.tmp 19) 0⟩,⟨false,none,some 159,0,.fieldAddr 27 (.tmp 158) 1⟩,⟨false,none,some 160,3,.load 3 (.tmp 159)⟩,⟨false,none,some 161,3,.binOp .mul 3 (.tmp 157) (.tmp 160) 3⟩,⟨false,none,some 162,3,.move (.tmp 23)⟩,⟨false,none,some 163,3,.binOp .sub 3 (.tmp 161) (.tmp 162) 3⟩,⟨false,none,some 164,3,.binOp .add 3 (.tmp 156) (.tmp 163) 3⟩,⟨false,none,some 12,3,.assign (.tmp 164)⟩]) (.seq (.ops [⟨false,none,some 165,3,.move (.tmp 13)⟩,⟨false,none,some 166,3,.move (.tmp 24)⟩,⟨false,none,some 167,3,.move (.tmp 23)⟩,⟨false,none,some 168,3,.binOp .sub 3 (.tmp 166) (.tmp 167) 3⟩,⟨false,none,some 169,3,.binOp .add 3 (.tmp 165) (.tmp 168) 3⟩,⟨false,none,some 13,3,.assign (.tmp 169)⟩]) mc3_l0_b2)))
noncomputable def mc3_l0_c:MC:=.seq (.seq (.ops [⟨true,none,some 102,22,.move (.tmp 17)⟩]) (.seq (.ops [⟨true,none,some 103,23,.move (.tmp 18)⟩]) (.seq (.ops [⟨true,none,some 104,0,.fieldAddr 42 (.tmp 15) 0⟩]) (.seq (.ops [⟨true,none,some 105,23,.load 23 (.tmp 104)⟩]) (.seq (.ops [⟨true,none,some 106,3,.move (.tmp 16)⟩]) (.seq (.ops [⟨true,none,some 107,3,.move (.tmp 16)⟩]) (.seq (.ops [⟨true,none,some 108,3,.binOp .add 3 (.tmp 107) (.const (.int .i64 1)) 3⟩]) (.seq (.ops [⟨true,none,some 109,23,.slice 23 (.tmp 105) (some (.tmp 106)) (some (.tmp 108)) none⟩]) (.seq (.ops [⟨true,none,some 110,0,.fieldAddr 42 (.tmp 15) 1⟩]) (.seq (.ops [⟨true,none,some 111,23,.load 23 (.tmp 110)⟩]) (.seq (.ops [⟨true,none,some 112,3,.move (.tmp 16)⟩]) (.seq (.ops [⟨true,none,some 113,3,.move (.tmp 16)⟩]) (.seq (.ops [⟨true,none,some 114,3,.binOp .add 3 (.tmp 113) (.const (.int .i64 1)) 3⟩]) (.seq (.ops [⟨true,none,some 115,23,.slice 23 (.tmp 111) (some (.tmp 112)) (some (.tmp 114)) none⟩]) (.seq (.ops [⟨true,none,some 116,0,.fieldAddr 42 (.tmp 15) 2⟩]) (.seq (.ops [⟨true,none,some 117,23,.load 23 (.tmp 116)⟩]) (.seq (.ops [⟨true,none,some 118,3,.move (.tmp 16)⟩]) (.seq (.ops [⟨true,none,some 119,3,.move (.tmp 16)⟩]) (.seq (.ops [⟨true,none,some 120,3,.binOp .add 3 (.tmp 119) (.const (.int .i64 1)) 3⟩]) (.seq (.ops [⟨true,none,some 121,23,.slice 23 (.tmp 117) (some (.tmp 118)) (some (.tmp 120)) none⟩]) (.seq (.ops [⟨true,none,some 122,42,.build 42 #[(0,.tmp 109),(1,.tmp 115),(2,.tmp 121)]⟩]) (.seq (.ops [⟨true,none,some 21,0,.alloc 47⟩]) (.seq (.chk [⟨true,none,some 121,23,.slice 23 (.tmp 117) (some (.tmp 118)) (some (.tmp 120)) none⟩,⟨true,none,some 117,23,.load 23 (.tmp 116)⟩,⟨true,none,some 115,23,.slice 23 (.tmp 111) (some (.tmp 112)) (some (.tmp 114)) none⟩,⟨true,none,some 111,23,.load 23 (.tmp 110)⟩,⟨true,none,some 109,23,.slice 23 (.tmp 105) (some (.tmp 106)) (some (.tmp 108)) none⟩,⟨true,none,some 105,23,.load 23 (.tmp 104)⟩]) (.seq (.ops [⟨false,none,some 123,48,.call ⟨.value (.func 8),#[.tmp 102,.tmp 103,.tmp 122],#[22,23,42]⟩⟩]) (.seq (.ops [⟨true,none,some 101,48,.move (.tmp 123)⟩]) (.seq (.ops [⟨true,none,some 124,47,.extract (.tmp 101) 0⟩]) (.seq (.ops [⟨true,none,some 125,30,.extract (.tmp 101) 1⟩]) (.seq (.ops [⟨false,none,none,0,.store 47 (.tmp 21) (.tmp 124)⟩]) (.seq (.ops [⟨true,none,some 22,30,.assign (.tmp 125)⟩]) (.chk [])))))))))))))))))))))))))))))) (.seq (.seq (.ops [⟨false,none,some 126,30,.move (.tmp 20)⟩,⟨false,none,some 127,4,.binOp .neq 30 (.tmp 126) (.const (.int .i64 0)) 30⟩,⟨false,none,some 128,4,.move (.tmp 127)⟩,⟨false,some (128,false),some 129,30,.move (.tmp 22)⟩,⟨false,some (128,false),some 130,4,.binOp .neq 30 (.tmp 129) (.const (.int .i64 0)) 30⟩,⟨false,none,some 131,4,.pick (.tmp 128) (.const (.bool true)) (.tmp 130)⟩,⟨false,none,some 132,4,.move (.tmp 131)⟩,⟨false,some (132,false),some 133,0,.fieldAddr 47 (.tmp 21) 0⟩,⟨false,some (132,false),some 134,3,.load 3 (.tmp 133)⟩,⟨false,some (132,false),some 135,0,.fieldAddr 29 (.tmp 19) 0⟩,⟨false,some (132,false),some 136,0,.fieldAddr 27 (.tmp 135) 0⟩,⟨false,some (132,false),some 137,3,.load 3 (.tmp 136)⟩,⟨false,some (132,false),some 138,0,.fieldAddr 29 (.tmp 19) 0⟩,⟨false,some (132,false),some 139,0,.fieldAddr 27 (.tmp 138) 1⟩,⟨false,some (132,false),some 140,3,.load 3 (.tmp 139)⟩,⟨false,some (132,false),some 141,4,.call ⟨.value (.func 9),#[.tmp 134,.tmp 137,.tmp 140],#[3,3,3]⟩⟩,⟨false,some (132,false),some 142,4,.unOp .not 4 (.tmp 141)⟩,⟨false,none,some 143,4,.pick (.tmp 132) (.const (.bool true)) (.tmp 142)⟩]) (.cond (.tmp 143) (.seq (.ops [⟨false,none,some 4,4,.assign (.const (.bool false))⟩]) (.ret)) (.skip))) mc3_l0_b1)
noncomputable def mc3_l0_b0:MC:=.seq (.seq (.ops [⟨true,none,some 85,22,.move (.tmp 5)⟩]) (.seq (.ops [⟨true,none,some 86,3,.move (.tmp 16)⟩]) (.seq (.ops [⟨true,none,some 87,0,.indexAddr 22 (.tmp 85) (.tmp 86)⟩]) (.seq (.ops [⟨true,none,some 88,45,.load 45 (.tmp 87)⟩]) (.seq (.ops [⟨true,none,some 89,22,.buildSlice 22 1 #[(0,.tmp 88)]⟩]) (.seq (.ops [⟨true,none,some 90,23,.move (.tmp 6)⟩]) (.seq (.ops [⟨true,none,some 91,3,.move (.tmp 16)⟩]) (.seq (.ops [⟨true,none,some 92,0,.indexAddr 23 (.tmp 90) (.tmp 91)⟩]) (.seq (.ops [⟨true,none,some 93,3,.load 3 (.tmp 92)⟩]) (.seq (.ops [⟨true,none,some 94,23,.buildSlice 23 1 #[(0,.tmp 93)]⟩]) (.seq (.ops [⟨true,none,some 17,22,.assign (.tmp 89)⟩]) (.seq (.ops [⟨true,none,some 18,23,.assign (.tmp 94)⟩]) (.chk [⟨true,none,some 93,3,.load 3 (.tmp 92)⟩,⟨true,none,some 88,45,.load 45 (.tmp 87)⟩]))))))))))))) (.seq (.ops [⟨false,none,some 96,22,.move (.tmp 17)⟩,⟨false,none,some 97,23,.move (.tmp 18)⟩,⟨false,none,some 98,31,.call ⟨.value (.func 4),#[.tmp 96,.tmp 97],#[22,23]⟩⟩,⟨false,none,some 95,31,.move (.tmp 98)⟩,⟨false,none,some 99,29,.extract (.tmp 95) 0⟩,⟨false,none,some 100,30,.extract (.tmp 95) 1⟩,⟨false,none,some 19,0,.alloc 29⟩,⟨false,none,none,0,.store 29 (.tmp 19) (.tmp 99)⟩,⟨false,none,some 20,30,.assign (.tmp 100)⟩]) mc3_l0_c)
theorem mc3_l0_eq:mc3_l0=.seq (.seq (.ops [⟨false,none,some 79,3,.move (.tmp 16)⟩,⟨false,none,some 80,22,.move (.tmp 5)⟩,⟨false,none,some 81,3,.call ⟨.builtin .len,#[.tmp 80],#[22]⟩⟩,⟨false,none,some 82,4,.binOp .lss 3 (.tmp 79) (.tmp 81) 3⟩]) (.cond (.tmp 82) (.skip) (.exit 0))) (.seq (.block 1 mc3_l0_b0) (.ops [⟨false,none,some 83,3,.move (.tmp 16)⟩,⟨false,none,some 84,3,.binOp .add 3 (.tmp 83) (.const (.int .i64 1)) 3⟩,⟨false,none,some 16,3,.assign (.tmp 84)⟩])):=rfl
noncomputable def mc3_r6:MC:=.seq (.seq (.ops [⟨false,none,some 33,3,.assign (.const (.int .i64 0))⟩]) (.block 2 (.loop mc3_l1))) (.seq (.ops [⟨false,none,some 284,4,.call ⟨.value (.func 5),#[],#[]⟩⟩,⟨false,none,some 4,4,.assign (.tmp 284)⟩]) (.ret))
noncomputable def mc3_r5:MC:=.seq (.seq (.ops [⟨false,none,some 238,30,.move (.tmp 27)⟩,⟨false,none,some 239,4,.binOp .neq 30 (.tmp 238) (.const (.int .i64 0)) 30⟩,⟨false,none,some 240,4,.move (.tmp 239)⟩,⟨false,some (240,false),some 241,30,.move (.tmp 29)⟩,⟨false,some (240,false),some 242,4,.binOp .neq 30 (.tmp 241) (.const (.int .i64 0)) 30⟩,⟨false,none,some 243,4,.pick (.tmp 240) (.const (.bool true)) (.tmp 242)⟩,⟨false,none,some 244,4,.move (.tmp 243)⟩,⟨false,some (244,false),some 245,30,.move (.tmp 32)⟩,⟨false,some (244,false),some 246,4,.binOp .neq 30 (.tmp 245) (.const (.int .i64 0)) 30⟩,⟨false,none,some 247,4,.pick (.tmp 244) (.const (.bool true)) (.tmp 246)⟩,⟨false,none,some 248,4,.move (.tmp 247)⟩,⟨false,some (248,false),some 249,23,.move (.tmp 26)⟩,⟨false,some (248,false),some 250,3,.call ⟨.builtin .len,#[.tmp 249],#[23]⟩⟩,⟨false,some (248,false),some 251,4,.binOp .gtr 3 (.tmp 250) (.const (.int .i64 0)) 3⟩,⟨false,none,some 252,4,.pick (.tmp 248) (.const (.bool true)) (.tmp 251)⟩,⟨false,none,some 253,4,.move (.tmp 252)⟩,⟨false,some (253,false),some 254,23,.move (.tmp 28)⟩,⟨false,some (253,false),some 255,23,.move (.tmp 14)⟩,⟨false,some (253,false),some 256,4,.call ⟨.value (.func 14),#[.tmp 254,.tmp 255],#[23,23]⟩⟩,⟨false,some (253,false),some 257,4,.unOp .not 4 (.tmp 256)⟩,⟨false,none,some 258,4,.pick (.tmp 253) (.const (.bool true)) (.tmp 257)⟩,⟨false,none,some 259,4,.move (.tmp 258)⟩,⟨false,some (259,false),some 260,23,.move (.tmp 31)⟩,⟨false,some (259,false),some 261,3,.call ⟨.builtin .len,#[.tmp 260],#[23]⟩⟩,⟨false,some (259,false),some 262,0,.fieldAddr 40 (.tmp 11) 1⟩,⟨false,some (259,false),some 263,38,.load 38 (.tmp 262)⟩,⟨false,some (259,false),some 264,3,.call ⟨.builtin .len,#[.tmp 263],#[38]⟩⟩,⟨false,some (259,false),some 265,4,.binOp .neq 3 (.tmp 261) (.tmp 264) 3⟩,⟨false,none,some 266,4,.pick (.tmp 259) (.const (.bool true)) (.tmp 265)⟩]) (.cond (.tmp 266) (.seq (.ops [⟨false,none,some 4,4,.assign (.const (.bool false))⟩]) (.ret)) (.skip))) mc3_r6
noncomputable def mc3_r4:MC:=.seq (.ops [⟨false,none,some 223,40,.load 40 (.tmp 11)⟩,⟨false,none,some 224,54,.call ⟨.value (.func 11),#[.tmp 223],#[40]⟩⟩,⟨false,none,some 222,54,.move (.tmp 224)⟩,⟨false,none,some 225,23,.extract (.tmp 222) 0⟩,⟨false,none,some 226,30,.extract (.tmp 222) 1⟩,⟨false,none,some 26,23,.assign (.tmp 225)⟩,⟨false,none,some 27,30,.assign (.tmp 226)⟩]) (.seq (.ops [⟨false,none,some 228,40,.load 40 (.tmp 11)⟩,⟨false,none,some 229,54,.call ⟨.value (.func 12),#[.tmp 228],#[40]⟩⟩,⟨false,none,some 227,54,.move (.tmp 229)⟩,⟨false,none,some 230,23,.extract (.tmp 227) 0⟩,⟨false,none,some 231,30,.extract (.tmp 227) 1⟩,⟨false,none,some 28,23,.assign (.tmp 230)⟩,⟨false,none,some 29,30,.assign (.tmp 231)⟩]) (.seq (.ops [⟨false,none,some 233,40,.load 40 (.tmp 11)⟩,⟨false,none,some 234,56,.call ⟨.value (.func 13),#[.tmp 233],#[40]⟩⟩,⟨false,none,some 232,56,.move (.tmp 234)⟩,⟨false,none,some 235,23,.extract (.tmp 232) 0⟩,⟨false,none,some 236,23,.extract (.tmp 232) 1⟩,⟨false,none,some 237,30,.extract (.tmp 232) 2⟩,⟨false,none,some 30,23,.assign (.tmp 235)⟩,⟨false,none,some 31,23,.assign (.tmp 236)⟩,⟨false,none,some 32,30,.assign (.tmp 237)⟩]) mc3_r5))
noncomputable def mc3_r3:MC:=.seq (.ops [⟨false,none,some 207,37,.buildSlice 37 0 #[]⟩,⟨false,none,some 208,0,.fieldAddr 40 (.tmp 11) 0⟩,⟨false,none,some 209,37,.load 37 (.tmp 208)⟩,⟨false,none,some 210,37,.call ⟨.builtin .append,#[.tmp 207,.tmp 209],#[37,37]⟩⟩,⟨false,none,some 25,37,.assign (.tmp 210)⟩]) (.seq (.ops [⟨false,none,some 211,37,.move (.tmp 25)⟩,⟨false,none,some 212,3,.move (.tmp 12)⟩,⟨false,none,some 213,36,.build 36 #[(0,.const (.string ⟨⟨[98,117,121,101,114]⟩⟩)),(1,.tmp 212)]⟩,⟨false,none,some 214,0,.indexAddr 37 (.tmp 211) (.const (.int .i64 0))⟩,⟨false,none,none,0,.store 36 (.tmp 214) (.tmp 213)⟩]) (.seq (.ops [⟨false,none,some 215,37,.move (.tmp 25)⟩,⟨false,none,some 216,0,.fieldAddr 40 (.tmp 11) 0⟩,⟨false,none,none,0,.store 37 (.tmp 216) (.tmp 215)⟩]) (.seq (.ops [⟨false,none,some 217,23,.move (.tmp 14)⟩,⟨false,none,some 218,3,.move (.tmp 12)⟩,⟨false,none,some 219,3,.move (.tmp 13)⟩,⟨false,none,some 220,3,.binOp .sub 3 (.tmp 218) (.tmp 219) 3⟩,⟨false,none,some 221,0,.indexAddr 23 (.tmp 217) (.const (.int .i64 0))⟩,⟨false,none,none,0,.store 3 (.tmp 221) (.tmp 220)⟩]) mc3_r4)))
noncomputable def mc3_r2:MC:=.seq (.seq (.ops [⟨false,none,some 16,3,.assign (.const (.int .i64 0))⟩]) (.block 0 (.loop mc3_l0))) mc3_r3
noncomputable def mc3_r1:MC:=.seq (.seq (.ops [⟨true,none,some 66,0,.fieldAddr 25 (.tmp 2) 2⟩]) (.seq (.ops [⟨true,none,some 67,3,.load 3 (.tmp 66)⟩]) (.seq (.ops [⟨true,none,some 69,0,.fieldAddr 25 (.tmp 2) 3⟩]) (.seq (.ops [⟨true,none,some 70,3,.load 3 (.tmp 69)⟩]) (.seq (.ops [⟨false,none,some 68,3,.call ⟨.value (.func 6),#[.tmp 67,.const (.int .i64 41)],#[3,3]⟩⟩]) (.seq (.chk [⟨true,none,some 70,3,.load 3 (.tmp 69)⟩]) (.seq (.ops [⟨false,none,some 71,3,.call ⟨.value (.func 6),#[.tmp 70,.const (.int .i64 1001)],#[3,3]⟩⟩]) (.seq (.ops [⟨true,none,some 9,3,.assign (.tmp 68)⟩]) (.seq (.ops [⟨true,none,some 10,3,.assign (.tmp 71)⟩]) (.chk [])))))))))) (.seq (.ops [⟨false,none,some 72,36,.build 36 #[(0,.const (.string ⟨⟨[98,117,121,101,114]⟩⟩))]⟩,⟨false,none,some 73,37,.buildSlice 37 1 #[(0,.tmp 72)]⟩,⟨false,none,some 74,40,.build 40 #[(0,.tmp 73)]⟩,⟨false,none,some 11,0,.alloc 40⟩,⟨false,none,none,0,.store 40 (.tmp 11) (.tmp 74)⟩]) (.seq (.ops [⟨false,none,some 12,3,.assign (.const (.int .i64 0))⟩,⟨false,none,some 13,3,.assign (.const (.int .i64 0))⟩]) (.seq (.ops [⟨false,none,some 75,23,.buildSlice 23 1 #[(0,.const (.int .i64 0))]⟩,⟨false,none,some 14,23,.assign (.tmp 75)⟩]) (.seq (.ops [⟨false,none,some 76,22,.move (.tmp 5)⟩,⟨false,none,some 77,23,.move (.tmp 1)⟩,⟨false,none,some 78,42,.call ⟨.value (.func 7),#[.tmp 76,.tmp 77],#[22,23]⟩⟩,⟨false,none,some 15,0,.alloc 42⟩,⟨false,none,none,0,.store 42 (.tmp 15) (.tmp 78)⟩]) mc3_r2))))
theorem mc3_eq:mc3=.seq (.ops [⟨false,none,some 2,0,.box 25 (.tmp 0)⟩,⟨false,none,some 4,4,.assign (.const (.bool false))⟩]) (.seq (.ops [⟨false,none,some 34,0,.fieldAddr 25 (.tmp 2) 0⟩,⟨false,none,some 35,22,.load 22 (.tmp 34)⟩,⟨false,none,some 36,0,.fieldAddr 25 (.tmp 2) 0⟩,⟨false,none,some 37,22,.load 22 (.tmp 36)⟩,⟨false,none,some 38,3,.call ⟨.builtin .len,#[.tmp 37],#[22]⟩⟩,⟨false,none,some 39,3,.call ⟨.builtin .min,#[.tmp 38,.const (.int .i64 6)],#[3,3]⟩⟩,⟨false,none,some 40,22,.slice 22 (.tmp 35) none (some (.tmp 39)) none⟩,⟨false,none,some 5,22,.assign (.tmp 40)⟩]) (.seq (.ops [⟨false,none,some 41,0,.fieldAddr 25 (.tmp 2) 1⟩,⟨false,none,some 42,23,.load 23 (.tmp 41)⟩,⟨false,none,some 43,0,.fieldAddr 25 (.tmp 2) 1⟩,⟨false,none,some 44,23,.load 23 (.tmp 43)⟩,⟨false,none,some 45,3,.call ⟨.builtin .len,#[.tmp 44],#[23]⟩⟩,⟨false,none,some 46,22,.move (.tmp 5)⟩,⟨false,none,some 47,3,.call ⟨.builtin .len,#[.tmp 46],#[22]⟩⟩,⟨false,none,some 48,3,.call ⟨.builtin .min,#[.tmp 45,.tmp 47],#[3,3]⟩⟩,⟨false,none,some 49,23,.slice 23 (.tmp 42) none (some (.tmp 48)) none⟩,⟨false,none,some 6,23,.assign (.tmp 49)⟩]) (.seq (.seq (.ops [⟨false,none,some 51,22,.move (.tmp 5)⟩,⟨false,none,some 52,23,.move (.tmp 6)⟩,⟨false,none,some 53,31,.call ⟨.value (.func 4),#[.tmp 51,.tmp 52],#[22,23]⟩⟩,⟨false,none,some 50,31,.move (.tmp 53)⟩,⟨false,none,some 54,29,.extract (.tmp 50) 0⟩,⟨false,none,some 55,30,.extract (.tmp 50) 1⟩,⟨false,none,some 7,0,.alloc 29⟩,⟨false,none,none,0,.store 29 (.tmp 7) (.tmp 54)⟩,⟨false,none,some 8,30,.assign (.tmp 55)⟩]) (.seq (.ops [⟨false,none,some 56,30,.move (.tmp 8)⟩,⟨false,none,some 57,4,.binOp .neq 30 (.tmp 56) (.const (.int .i64 0)) 30⟩,⟨false,none,some 58,4,.move (.tmp 57)⟩,⟨false,some (58,false),some 59,23,.move (.tmp 6)⟩,⟨false,some (58,false),some 60,3,.call ⟨.builtin .len,#[.tmp 59],#[23]⟩⟩,⟨false,some (58,false),some 61,22,.move (.tmp 5)⟩,⟨false,some (58,false),some 62,3,.call ⟨.builtin .len,#[.tmp 61],#[22]⟩⟩,⟨false,some (58,false),some 63,4,.binOp .neq 3 (.tmp 60) (.tmp 62) 3⟩,⟨false,none,some 64,4,.pick (.tmp 58) (.const (.bool true)) (.tmp 63)⟩]) (.cond (.tmp 64) (.seq (.ops [⟨false,none,some 65,4,.call ⟨.value (.func 5),#[],#[]⟩⟩,⟨false,none,some 4,4,.assign (.tmp 65)⟩]) (.ret)) (.skip)))) mc3_r1))):=rfl
theorem list37:isList Tryz.prog 37=true:=by kernel_rfl
theorem elem37:elemA Tryz.prog 37=some 36:=by kernel_rfl
theorem sz36:szOf Tryz.prog 36=some 2:=by kernel_rfl
theorem small36:smallT Tryz.prog 36=true:=by kernel_rfl
theorem list38:isList Tryz.prog 38=true:=by kernel_rfl
theorem small53:smallT Tryz.prog 53=true:=by kernel_rfl
theorem ptC_single (p:Pt):singles (ptC p)=true:=rfl
theorem dtC_single (d:Dt):singles (dtC d)=true:=rfl
theorem intC_single (z:Int):singles (intC z)=true:=rfl
structure Lp (w0:AW) (n11 n15:Nat) (pv dv qv:Value) (ps:List Pt) (ds:List Dt) (qs:List Int) (BP BD BW:Nat) (w:AW):Prop where
 old:∀ x,x < w0.next→x ≠ n11→w.heap.get x=w0.heap.get x
 box:w.heap.get n11=some (.cells [pv,dv] 40 false)
 p:LitQ ptC 36 n15 w pv ps BP
 d:AccQ dtC 53 n15 w dv ds BD
 q:LitQ intC 3 n15 w qv qs BW
 pq:BP ≠ BW
 pd:ds ≠ []→BP ≠ BD
 qd:ds ≠ []→BW ≠ BD
 np:BP ≠ n11
 nq:n11 < BW
 next:w0.next≤w.next
 lim:w.lim=w0.lim
 h11:n11 < n15
 h15:n15 + 1=w0.next
 hlim:w0.lim≤n11
section
variable {w0 w w':AW} {n11 n15:Nat} {pv dv qv:Value} {ps:List Pt} {ds:List Dt} {qs:List Int} {BP BD BW:Nat}
theorem Lp.up (h:Lp w0 n11 n15 pv dv qv ps ds qs BP BD BW w) (u:Up w w'):Lp w0 n11 n15 pv dv qv ps ds qs BP BD BW w':=by
 have h11:=h.h11; have h15:=h.h15; have hnx:=h.next; have hp:=h.p.2.2.1; have hq:=h.q.2.2.1
 exact ⟨fun x hx hne=>by rw [u.at (by omega),h.old x hx hne],by rw [u.at (by omega)]; exact h.box,h.p.keep (u.at hp) u.next,h.d.keep (fun _ _ hb=>u.at hb) u.next,h.q.keep (u.at hq) u.next,h.pq,h.pd,h.qd,h.np,h.nq,Nat.le_trans h.next u.next,u.lim.trans h.lim,h.h11,h.h15,h.hlim⟩
theorem Lp.debt (h:Lp w0 n11 n15 pv dv qv ps ds qs BP BD BW w) (hlen:ds.length≤1000) (y:Dt) :
  ∃ dv' w',append1 Tryz.prog ⟨w.heap.put w.next (some (.cells (dtC y) 53 false)),w.next + 1,w.lim⟩ [38,38] [dv,.slice (some ⟨w.next,0,some 2⟩) 1 1]=.val dv' w'∧w'.heap.get n11=some (.cells [pv,dv] 40 false)∧(∃ B n,dv'=.slice (some ⟨B,0,none⟩) n n)∧w'.lim≤n11∧∃ BD',Lp w0 n11 n15 pv dv' qv ps (ds++[y]) qs BP BD' BW ⟨w'.heap.put n11 (some (.cells [pv,dv'] 40 false)),w'.next,w'.lim⟩:=by
 have h11:=h.h11; have h15:=h.h15; have hnx:=h.next; have hlm:=h.lim; have hli:=h.hlim
 have hp:=h.p.2.2.1; have hq:=h.q.2.2.1; have np:=h.np; have nq:=h.nq
 obtain ⟨dv',w',ha,⟨B',hB',hacc⟩,hk,hn,hl⟩:=AccQ.push2 (P:=Tryz.prog) (st:=38) (sz:=3) list38 elem38 sz53 small53 dtC_length dtC_single (by decide) h.d (by omega) (by omega) (by omega) y
 have hlt:∀ {x:Nat},x≤n15→ds ≠ []→x ≠ BD:=fun {x} hx hne=>by have:=(h.d.lt hne).1; omega
 obtain ⟨B2,n,hv⟩:∃ B n,dv'=.slice (some ⟨B,0,none⟩) n n:=by
  rcases hacc with ⟨e,_⟩ | ⟨e,_⟩
  ·simp at e
  ·exact ⟨_,_,e⟩
 refine ⟨dv',w',ha,by rw [hk n11 (by omega) (hlt (by omega))]; exact h.box,⟨B2,n,hv⟩,by omega,B',?_⟩
 exact {
  old:=fun x hx hne=>by
   show (w'.heap.put n11 _).get x=_
   rw [get_put,if_neg hne,hk x (by omega) (hlt (by omega)),h.old x hx hne]
  box:=by show (w'.heap.put n11 _).get n11=_; rw [get_put,if_pos rfl]
  p:=h.p.keep (by show (w'.heap.put n11 _).get BP=_; rw [get_put,if_neg np,hk BP hp h.pd]) hn
  d:=hacc.keep (fun _ _ _=>by show (w'.heap.put n11 _).get B'=_; rw [get_put,if_neg (by omega)]) (Nat.le_refl _)
  q:=h.q.keep (by show (w'.heap.put n11 _).get BW=_; rw [get_put,if_neg (by omega),hk BW hq h.qd]) hn
  pq:=h.pq
  pd:=fun _=>by omega
  qd:=fun _=>by omega
  np:=np
  nq:=nq
  next:=Nat.le_trans hnx hn
  lim:=by show w'.lim=_; omega
  h11:=h11
  h15:=h15
  hlim:=hli }
theorem Lp.party (h:Lp w0 n11 n15 pv dv qv ps ds qs BP BD BW w) (hlen:ps.length≤1000) (y:Pt) :
  ∃ pv' w',append1 Tryz.prog ⟨w.heap.put w.next (some (.cells (ptC y) 36 false)),w.next + 1,w.lim⟩ [37,37] [pv,.slice (some ⟨w.next,0,some 2⟩) 1 1]=.val pv' w'∧w'.heap.get n11=some (.cells [pv,dv] 40 false)∧(∃ B sq n,pv'=.slice (some ⟨B,0,sq⟩) n n)∧w'.lim≤n11∧∃ BP',Lp w0 n11 n15 pv' dv qv (ps++[y]) ds qs BP' BD BW ⟨w'.heap.put n11 (some (.cells [pv',dv] 40 false)),w'.next,w'.lim⟩:=by
 have h11:=h.h11; have h15:=h.h15; have hnx:=h.next; have hlm:=h.lim; have hli:=h.hlim
 have hp:=h.p.2.2.1; have hq:=h.q.2.2.1; have np:=h.np; have nq:=h.nq; have pq:=h.pq
 obtain ⟨pv',w',ha,⟨B',hB',hacc⟩,hk,hn,hl⟩:=LitQ.push2 (P:=Tryz.prog) (st:=37) (sz:=2) list37 elem37 sz36 small36 ptC_length ptC_single (by decide) h.p (by omega) (by omega) (by omega) y
 obtain ⟨sq,hv⟩:=hacc.slice
 have hdk:ds ≠ []→w'.heap.get BD=w.heap.get BD:=fun hne=>by
  have:=h.d.lt hne
  have:=h.pd hne
  exact hk BD (by omega) (by omega)
 refine ⟨pv',w',ha,by rw [hk n11 (by omega) (by omega)]; exact h.box,⟨B',sq,_,hv⟩,by omega,B',?_⟩
 exact {
  old:=fun x hx hne=>by
   show (w'.heap.put n11 _).get x=_
   rw [get_put,if_neg hne,hk x (by omega) (by omega),h.old x hx hne]
  box:=by show (w'.heap.put n11 _).get n11=_; rw [get_put,if_pos rfl]
  p:=hacc.keep (by show (w'.heap.put n11 _).get B'=_; rw [get_put,if_neg (by omega)]) (Nat.le_refl _)
  d:=h.d.keep (fun hne hb _=>by show (w'.heap.put n11 _).get BD=_; rw [get_put,if_neg (by omega),hdk hne]) hn
  q:=h.q.keep (by show (w'.heap.put n11 _).get BW=_; rw [get_put,if_neg (by omega),hk BW hq (by omega)]) hn
  pq:=by omega
  pd:=fun hne=>by have:=h.d.lt hne; omega
  qd:=h.qd
  np:=by omega
  nq:=nq
  next:=Nat.le_trans hnx hn
  lim:=by show w'.lim=_; omega
  h11:=h11
  h15:=h15
  hlim:=hli }
theorem Lp.want (h:Lp w0 n11 n15 pv dv qv ps ds qs BP BD BW w) (hlen:qs.length≤1000) (y:Int) :
  ∃ qv' w',append1 Tryz.prog ⟨w.heap.put w.next (some (.cells (intC y) 3 false)),w.next + 1,w.lim⟩ [23,23] [qv,.slice (some ⟨w.next,0,some 2⟩) 1 1]=.val qv' w'∧(∃ B sq n,qv'=.slice (some ⟨B,0,sq⟩) n n)∧∃ BW',Lp w0 n11 n15 pv dv qv' ps ds (qs++[y]) BP BD BW' w':=by
 have h11:=h.h11; have h15:=h.h15; have hnx:=h.next; have hlm:=h.lim; have hli:=h.hlim
 have hp:=h.p.2.2.1; have hq:=h.q.2.2.1; have np:=h.np; have nq:=h.nq; have pq:=h.pq
 obtain ⟨qv',w',ha,⟨B',hB',hacc⟩,hk,hn,hl⟩:=LitQ.push2 (P:=Tryz.prog) (st:=23) (sz:=1) list26 elem23 size3 small3 intC_length intC_single (by decide) h.q (by omega) (by omega) (by omega) y
 obtain ⟨sq,hv⟩:=hacc.slice
 have hdk:ds ≠ []→w'.heap.get BD=w.heap.get BD:=fun hne=>by
  have:=h.d.lt hne
  have:=h.qd hne
  exact hk BD (by omega) (by omega)
 refine ⟨qv',w',ha,⟨B',sq,_,hv⟩,B',?_⟩
 exact {
  old:=fun x hx hne=>by rw [hk x (by omega) (by omega),h.old x hx hne]
  box:=by rw [hk n11 (by omega) (by omega)]; exact h.box
  p:=h.p.keep (hk BP hp (by omega)) hn
  d:=h.d.keep (fun hne hb _=>hdk hne) hn
  q:=hacc
  pq:=by omega
  pd:=h.pd
  qd:=fun hne=>by have:=h.d.lt hne; omega
  np:=np
  nq:=by omega
  next:=Nat.le_trans hnx hn
  lim:=by omega
  h11:=h11
  h15:=h15
  hlim:=hli }
end
structure Tp (v5 v6:Value) (pr pt C O:Int) (n11 n15:Nat) (qv:Value) (i:Nat) (t:Tm):Prop where
 t5:tget t 5=v5
 t6:tget t 6=v6
 t9:tget t 9=.int .i64 pr
 t10:tget t 10=.int .i64 pt
 t11:tget t 11=.pointer (some ⟨n11,0,none⟩)
 t12:tget t 12=.int .i64 C
 t13:tget t 13=.int .i64 O
 t14:tget t 14=qv
 t15:tget t 15=.pointer (some ⟨n15,0,none⟩)
 t16:tget t 16=.int .i64 (i:Nat)
def one2 (i:Nat) (br:Int):List Dt:=if 0 < br then [⟨0,(i:Int) + 1,br⟩] else []
def one1 (i:Nat) (ln:Int):List Dt:=if 0 < ln then [⟨(i:Int) + 1,0,ln⟩] else []
section
variable {ov:Ov} {w0 w:AW} {n11 n15:Nat} {pv dv qv v5 v6:Value} {ps:List Pt} {ds:List Dt} {qs:List Int} {BP BD BW:Nat} {pr pt C O ln br:Int} {i:Nat}
theorem body5 (m:Nat) (h:Lp w0 n11 n15 pv dv qv ps ds qs BP BD BW w) (hlen:ds.length≤1000) (hi:i≤6) (Q:Ex→Tm→AW→Prop) (t:Tm) (hT:Tp v5 v6 pr pt C O n11 n15 qv i t) (t24:tget t 24=.int .i64 br)
  (hQ:∀ t w dv' BD',Lp w0 n11 n15 pv dv' qv ps (ds++one2 i br) qs BP BD' BW w→Tp v5 v6 pr pt C O n11 n15 qv i t→Q .normal t w):wp (exM Tryz.prog (run Tryz.prog ov m) mc3_l0_b5 t w) Q:=by
 obtain ⟨t5,t6,t9,t10,t11,t12,t13,t14,t15,t16⟩:=hT
 by_cases hb:0 < br
 ·obtain ⟨dv',w',ha,hbox',⟨B,n,hv⟩,hl',BD',hL'⟩:=h.debt hlen ⟨0,(i:Int) + 1,br⟩
  have hbox:=h.box
  have hok:=h.d.ok
  have hw:IntKind.wrap .i64 ((i:Int) + 1)=(i:Int) + 1:=wrap64_in (by omega) (by omega)
  have e2:one2 i br=[⟨0,(i:Int) + 1,br⟩]:=by unfold one2; rw [if_pos hb]
  rw [← e2] at hL'
  have m1:¬ n11=w.next:=by have:=h.h11; have:=h.h15; have:=h.next; omega
  subst hv
  simp only [dtC] at ha
  simp [mc3_l0_b5,t24,hb,t11,t16,hbox,hok,hw,m1,ha,hbox',hl']
  exact hQ _ _ _ _ hL' (by constructor <;> simp [t5,t6,t9,t10,t11,t12,t13,t14,t15,t16])
 ·have e2:one2 i br=[]:=by unfold one2; rw [if_neg hb]
  have h':=h
  rw [← List.append_nil ds,← e2] at h'
  simp [mc3_l0_b5,t24,hb]
  exact hQ _ _ _ _ h' (by constructor <;> simp [t5,t6,t9,t10,t11,t12,t13,t14,t15,t16])
theorem body4 (m:Nat) (h:Lp w0 n11 n15 pv dv qv ps ds qs BP BD BW w) (hlen:ds.length≤900) (hi:i≤6) (Q:Ex→Tm→AW→Prop) (t:Tm) (hT:Tp v5 v6 pr pt C O n11 n15 qv i t) (t23:tget t 23=.int .i64 ln) (t24:tget t 24=.int .i64 br)
  (hQ:∀ t w dv' BD',Lp w0 n11 n15 pv dv' qv ps (ds++lend1 i (ln,br)) qs BP BD' BW w→Tp v5 v6 pr pt C O n11 n15 qv i t→Q .normal t w):wp (exM Tryz.prog (run Tryz.prog ov m) mc3_l0_b4 t w) Q:=by
 have hT':=hT
 obtain ⟨t5,t6,t9,t10,t11,t12,t13,t14,t15,t16⟩:=hT'
 have e1:lend1 i (ln,br)=one1 i ln++one2 i br:=rfl
 rw [e1,← List.append_assoc] at hQ
 by_cases hb:0 < ln
 ·obtain ⟨dv',w',ha,hbox',⟨B,n,hv⟩,hl',BD',hL'⟩:=h.debt (by omega) ⟨(i:Int) + 1,0,ln⟩
  have hbox:=h.box
  have hok:=h.d.ok
  have hw:IntKind.wrap .i64 ((i:Int) + 1)=(i:Int) + 1:=wrap64_in (by omega) (by omega)
  have e2:one1 i ln=[⟨(i:Int) + 1,0,ln⟩]:=by unfold one1; rw [if_pos hb]
  rw [← e2] at hL'
  have m1:¬ n11=w.next:=by have:=h.h11; have:=h.h15; have:=h.next; omega
  have hl2:(ds++one1 i ln).length≤1000:=by rw [e2]; simp; omega
  have fin:=fun t hT t24=>body5 (ov:=ov) (v5:=v5) (v6:=v6) (pr:=pr) (pt:=pt) (C:=C) (O:=O) (br:=br) (i:=i) m hL' hl2 hi Q t hT t24 hQ
  subst hv
  simp only [dtC] at ha
  simp [mc3_l0_b4,t23,hb,t11,t16,hbox,hok,hw,m1,ha,hbox',hl']
  exact fin _ (by constructor <;> simp [t5,t6,t9,t10,t11,t12,t13,t14,t15,t16]) (by simp [t24])
 ·have e2:one1 i ln=[]:=by unfold one1; rw [if_neg hb]
  have h':=h
  rw [← List.append_nil ds,← e2] at h'
  have hl2:(ds++one1 i ln).length≤1000:=by rw [e2]; simp; omega
  have fin:=fun t hT t24=>body5 (ov:=ov) (v5:=v5) (v6:=v6) (pr:=pr) (pt:=pt) (C:=C) (O:=O) (br:=br) (i:=i) m h' hl2 hi Q t hT t24 hQ
  simp [mc3_l0_b4,t23,hb]
  exact fin _ (by constructor <;> simp [t5,t6,t9,t10,t11,t12,t13,t14,t15,t16]) (by simp [t24])
end
def lnI (pr pt lo:Int):Int:=(pr * lo * pt).tdiv 1000
structure PodN (pr pt lo y hi:Int):Prop where
 p0:0≤pr
 p1:pr≤40
 t0:0≤pt
 t1:pt≤1000
 l0:0≤lo
 ly:lo≤y
 yh:y≤hi
 h1:hi≤400
section
variable {pr pt lo y hi:Int}
theorem PodN.bd (h:PodN pr pt lo y hi):0≤pr * lo∧pr * lo≤pr * y∧pr * y≤pr * hi∧pr * hi≤16000∧0≤pr * lo * pt∧pr * lo * pt≤pr * lo * 1000:=by
 obtain ⟨p0,p1,t0,t1,l0,ly,yh,h1⟩:=h
 have a0:=Int.mul_nonneg p0 l0
 have a1:=Int.mul_le_mul_of_nonneg_left ly p0
 have a2:=Int.mul_le_mul_of_nonneg_left yh p0
 have a3:=Int.mul_le_mul_of_nonneg_left h1 p0
 exact ⟨a0,a1,a2,by omega,Int.mul_nonneg a0 t0,Int.mul_le_mul_of_nonneg_left t1 a0⟩
theorem PodN.ln (h:PodN pr pt lo y hi):0≤lnI pr pt lo∧lnI pr pt lo≤pr * lo:=by
 obtain ⟨a0,a1,a2,a3,a4,a5⟩:=h.bd
 unfold lnI
 rw [Int.tdiv_eq_ediv_of_nonneg a4]
 constructor <;> omega
end
theorem add9_0 (c:Bool) (w:AW):(binW Tryz.prog .add 9 c).val (.string ⟨⟨[103,114,111,119,101,114,45]⟩⟩) (.string (digS 0)) w=.val (.string (growS 0)) w:=by
 cases c <;> rfl
theorem add9_1 (c:Bool) (w:AW):(binW Tryz.prog .add 9 c).val (.string ⟨⟨[103,114,111,119,101,114,45]⟩⟩) (.string (digS 1)) w=.val (.string (growS 1)) w:=by
 cases c <;> rfl
theorem add9_2 (c:Bool) (w:AW):(binW Tryz.prog .add 9 c).val (.string ⟨⟨[103,114,111,119,101,114,45]⟩⟩) (.string (digS 2)) w=.val (.string (growS 2)) w:=by
 cases c <;> rfl
theorem add9_3 (c:Bool) (w:AW):(binW Tryz.prog .add 9 c).val (.string ⟨⟨[103,114,111,119,101,114,45]⟩⟩) (.string (digS 3)) w=.val (.string (growS 3)) w:=by
 cases c <;> rfl
theorem add9_4 (c:Bool) (w:AW):(binW Tryz.prog .add 9 c).val (.string ⟨⟨[103,114,111,119,101,114,45]⟩⟩) (.string (digS 4)) w=.val (.string (growS 4)) w:=by
 cases c <;> rfl
theorem add9_5 (c:Bool) (w:AW):(binW Tryz.prog .add 9 c).val (.string ⟨⟨[103,114,111,119,101,114,45]⟩⟩) (.string (digS 5)) w=.val (.string (growS 5)) w:=by
 cases c <;> rfl
theorem add9 (c:Bool) (w:AW) {i:Nat} (hi:i≤5):(binW Tryz.prog .add 9 c).val (.string ⟨⟨[103,114,111,119,101,114,45]⟩⟩) (.string (digS i)) w=.val (.string (growS i)) w:=by
 match i,hi with
 | 0,_=>exact add9_0 c w
 | 1,_=>exact add9_1 c w
 | 2,_=>exact add9_2 c w
 | 3,_=>exact add9_3 c w
 | 4,_=>exact add9_4 c w
 | 5,_=>exact add9_5 c w
section
variable {ov:Ov} {w0 w:AW} {n11 n15:Nat} {pv dv qv v5 v6:Value} {ps:List Pt} {ds:List Dt} {qs:List Int} {BP BD BW:Nat} {pr pt C O ln br:Int} {i:Nat}
theorem body3 (m:Nat) (o10:∀ args w,ov 10 args w=none) (h:Lp w0 n11 n15 pv dv qv ps ds qs BP BD BW w) (hlen:ds.length≤900) (hpl:ps.length≤900) (hi:i≤5) (Q:Ex→Tm→AW→Prop) (t:Tm) (hT:Tp v5 v6 pr pt C O n11 n15 qv i t) (t23:tget t 23=.int .i64 ln) (t24:tget t 24=.int .i64 br)
  (hQ:∀ t w pv' dv' BP' BD',Lp w0 n11 n15 pv' dv' qv (ps++[⟨growS i,0⟩]) (ds++lend1 i (ln,br)) qs BP' BD' BW w→Tp v5 v6 pr pt C O n11 n15 qv i t→Q .normal t w):wp (exM Tryz.prog (run Tryz.prog ov (m + 1)) mc3_l0_b3 t w) Q:=by
 have hT':=hT
 obtain ⟨t5,t6,t9,t10,t11,t12,t13,t14,t15,t16⟩:=hT'
 obtain ⟨pv',w',ha,hbox',⟨B,sq',n,hv⟩,hl',BP',hL'⟩:=h.party (by omega) ⟨growS i,0⟩
 have hbox:=h.box
 have hok:=h.p.ok
 obtain ⟨sq,hpv⟩:=h.p.slice
 have sp:sameVal 5 pv pv=true:=by rw [hpv]; exact sameN_slice 4 _ _ _
 have m1:¬ n11=w.next:=by have:=h.h11; have:=h.h15; have:=h.next; omega
 have r10:=fun w=>run10 o10 i hi m w
 have ad:=fun c w=>add9 c w hi
 have fin:=fun t hT t23 t24=>body4 (ov:=ov) (v5:=v5) (v6:=v6) (pr:=pr) (pt:=pt) (C:=C) (O:=O) (ln:=ln) (br:=br) (i:=i) (m + 1) hL' hlen (by omega) Q t hT t23 t24 (fun t w dv' BD'=>hQ t w pv' dv' BP' BD')
 subst hv
 simp only [ptC] at ha
 simp [mc3_l0_b3,t11,t16,hbox,hok,sp,r10,ad,m1,ha,hbox',hl']
 exact fin _ (by constructor <;> simp [t5,t6,t9,t10,t11,t12,t13,t14,t15,t16]) (by simp [t23]) (by simp [t24])
theorem body2 (m:Nat) (o10:∀ args w,ov 10 args w=none) (h:Lp w0 n11 n15 pv dv qv ps ds qs BP BD BW w) (hlen:ds.length≤900) (hpl:ps.length≤900) (hql:qs.length≤900) (hi:i≤5) (hln:0≤ln∧ln≤1000000) (hbr:0≤br∧br≤1000000) (Q:Ex→Tm→AW→Prop) (t:Tm) (hT:Tp v5 v6 pr pt C O n11 n15 qv i t) (t23:tget t 23=.int .i64 ln) (t24:tget t 24=.int .i64 br)
  (hQ:∀ t w pv' dv' qv' BP' BD' BW',Lp w0 n11 n15 pv' dv' qv' (ps++[⟨growS i,0⟩]) (ds++lend1 i (ln,br)) (qs++[br - ln]) BP' BD' BW' w→Tp v5 v6 pr pt C O n11 n15 qv' i t→Q .normal t w):wp (exM Tryz.prog (run Tryz.prog ov (m + 1)) mc3_l0_b2 t w) Q:=by
 have hT':=hT
 obtain ⟨t5,t6,t9,t10,t11,t12,t13,t14,t15,t16⟩:=hT'
 obtain ⟨qv',w',ha,⟨B,sq',n,hv⟩,BW',hL'⟩:=h.want (by omega) (br - ln)
 have hok:=h.q.ok
 have hw:IntKind.wrap .i64 (br - ln)=br - ln:=wrap64_in (by omega) (by omega)
 have fin:=fun t hT t23 t24=>body3 (ov:=ov) (v5:=v5) (v6:=v6) (pr:=pr) (pt:=pt) (C:=C) (O:=O) (ln:=ln) (br:=br) (i:=i) m o10 hL' hlen hpl hi Q t hT t23 t24 (fun t w pv' dv' BP' BD'=>hQ t w pv' dv' qv' BP' BD' BW')
 subst hv
 simp only [intC] at ha
 simp [mc3_l0_b2,t14,t23,t24,hok,hw,ha]
 exact fin _ (by constructor <;> simp [t5,t6,t9,t10,t11,t12,t13,t14,t15,t16]) (by simp [t23]) (by simp [t24])
theorem body1 (m:Nat) (o10:∀ args w,ov 10 args w=none) (h:Lp w0 n11 n15 pv dv qv ps ds qs BP BD BW w) (hlen:ds.length≤900) (hpl:ps.length≤900) (hql:qs.length≤900) (hi:i≤5) {lo y hh:Int} (hN:PodN pr pt lo y hh) (hC:0≤C∧C≤1000000) (hO:0≤O∧O≤1000000)
  (n19 n21:Nat) (c2 c3 c4 c5 y1 y2 y3:Value) (g19:w.heap.get n19=some (.cells [.int .i64 lo,.int .i64 hh,c2,c3,c4,c5] 29 false)) (g21:w.heap.get n21=some (.cells [.int .i64 y,y1,y2,y3] 47 false))
  (Q:Ex→Tm→AW→Prop) (t:Tm) (hT:Tp v5 v6 pr pt C O n11 n15 qv i t) (t19:tget t 19=.pointer (some ⟨n19,0,none⟩)) (t21:tget t 21=.pointer (some ⟨n21,0,none⟩))
  (hQ:∀ t w pv' dv' qv' BP' BD' BW',Lp w0 n11 n15 pv' dv' qv' (ps++[⟨growS i,0⟩]) (ds++lend1 i (lnI pr pt lo,pr * y)) (qs++[pr * y - lnI pr pt lo]) BP' BD' BW' w→Tp v5 v6 pr pt (C + (pr * hh - lnI pr pt lo)) (O + (pr * y - lnI pr pt lo)) n11 n15 qv' i t→Q .normal t w):wp (exM Tryz.prog (run Tryz.prog ov (m + 1)) mc3_l0_b1 t w) Q:=by
 have hT':=hT
 obtain ⟨t5,t6,t9,t10,t11,t12,t13,t14,t15,t16⟩:=hT'
 obtain ⟨a0,a1,a2,a3,a4,a5⟩:=hN.bd
 obtain ⟨b0,b1⟩:=hN.ln
 have w1:IntKind.wrap .i64 (pr * lo)=pr * lo:=wrap64_in (by omega) (by omega)
 have w2:IntKind.wrap .i64 (pr * lo * pt)=pr * lo * pt:=wrap64_in (by omega) (by omega)
 have w3:IntKind.wrap .i64 ((pr * lo * pt).tdiv 1000)=lnI pr pt lo:=wrap64_in (by unfold lnI at b0; omega) (by unfold lnI at b1; omega)
 have w4:IntKind.wrap .i64 (pr * y)=pr * y:=wrap64_in (by omega) (by omega)
 have w5:IntKind.wrap .i64 (pr * hh)=pr * hh:=wrap64_in (by omega) (by omega)
 have w6:IntKind.wrap .i64 (pr * hh - lnI pr pt lo)=pr * hh - lnI pr pt lo:=wrap64_in (by omega) (by omega)
 have w7:IntKind.wrap .i64 (C + (pr * hh - lnI pr pt lo))=C + (pr * hh - lnI pr pt lo):=wrap64_in (by omega) (by omega)
 have w8:IntKind.wrap .i64 (pr * y - lnI pr pt lo)=pr * y - lnI pr pt lo:=wrap64_in (by omega) (by omega)
 have w9:IntKind.wrap .i64 (O + (pr * y - lnI pr pt lo))=O + (pr * y - lnI pr pt lo):=wrap64_in (by omega) (by omega)
 have dq:∀ (c:Bool) (a:Int) (w:AW),(binW Tryz.prog .quo 3 c).val (.int .i64 a) (.int .i64 1000) w=.val (.int .i64 (IntKind.wrap .i64 (a.tdiv 1000))) w:=fun c a w=>bin_quo 3 c .i64 a 1000 (by decide)
 have fin:=fun t hT t23 t24=>body2 (ov:=ov) (v5:=v5) (v6:=v6) (pr:=pr) (pt:=pt) (C:=C + (pr * hh - lnI pr pt lo)) (O:=O + (pr * y - lnI pr pt lo)) (ln:=lnI pr pt lo) (br:=pr * y) (i:=i) m o10 h hlen hpl hql hi ⟨b0,by omega⟩ ⟨by omega,by omega⟩ Q t hT t23 t24 hQ
 simp [mc3_l0_b1,t9,t10,t12,t13,t19,t21,g19,g21,w1,w2,w3,w4,w5,w6,w7,w8,w9,dq]
 exact fin _ (by constructor <;> simp [t5,t6,t9,t10,t11,t12,t13,t14,t15,t16]) (by simp) (by simp)
end
theorem rows_skipN {w w':AW} {k:Nat} {a a':Option Addr} {n c n' c':Nat} {ty:TypeId} {ro:Bool} {v:Value} {L:List Int} (h:RowsV intC w v L) (hk:w.heap.get k=some (.cells [.slice a n c,.slice a' n' c'] ty ro)) (ho:∀ x,x < w.next→x ≠ k→w'.heap.get x=w.heap.get x) (hn:w.next≤w'.next):RowsV intC w' v L:=by
 rcases h with ⟨rfl,e⟩ | ⟨b,off,sq,c,rfl,⟨pre,rest,e,ro',h1,h2⟩,h3⟩
 ·exact .inl ⟨rfl,e⟩
 ·cases L with
  | nil=>exact .inl ⟨rfl,_,_,rfl⟩
  | cons z L =>
   have hne:b ≠ k:=by
    rintro rfl
    rw [hk] at h1
    obtain ⟨e1,_,_⟩:=AObj.cells.inj (Option.some.inj h1)
    have hm:Value.int .i64 z ∈ pre++((z::L).flatMap intC++rest):=by simp [intC]
    rw [← e1] at hm
    simp at hm
   exact .inr ⟨b,off,sq,_,rfl,⟨pre,rest,e,ro',by rw [ho b h3 hne]; exact h1,h2⟩,Nat.lt_of_lt_of_le h3 hn⟩
theorem PodsV.skipN {w w':AW} {k:Nat} {a a':Option Addr} {n c n' c':Nat} {ty:TypeId} {ro:Bool} {v:Value} {L:List Pod} (h:PodsV w v L) (hk:w.heap.get k=some (.cells [.slice a n c,.slice a' n' c'] ty ro)) (ho:∀ x,x < w.next→x ≠ k→w'.heap.get x=w.heap.get x) (hn:w.next≤w'.next):PodsV w' v L:=by
 rcases h with ⟨a,c,rfl,rfl⟩ | ⟨b,sq,c,rfl,⟨rest,e,ro',h1⟩,h3⟩
 ·exact .inl ⟨a,c,rfl,rfl⟩
 ·cases L with
  | nil=>exact .inl ⟨_,_,rfl,rfl⟩
  | cons z L =>
   have hne:b ≠ k:=by
    rintro rfl
    rw [hk] at h1
    obtain ⟨e1,_,_⟩:=AObj.cells.inj (Option.some.inj h1)
    have hm:Value.string z.tag ∈ podsC (z::L)++rest:=by simp [podsC,podC]
    rw [← e1] at hm
    simp at hm
   exact .inr ⟨b,sq,_,rfl,⟨rest,e,ro',by rw [ho b h3 hne]; exact h1⟩,Nat.lt_of_lt_of_le h3 hn⟩
theorem PartsW.skipN {w w':AW} {k:Nat} {a a':Option Addr} {n c n' c':Nat} {ty:TypeId} {ro:Bool} (h:PartsW w) (hk:w.heap.get k=some (.cells [.slice a n c,.slice a' n' c'] ty ro)) (ho:∀ x,x < w.next→x ≠ k→w'.heap.get x=w.heap.get x) (hn:w.next≤w'.next):PartsW w':=by
 obtain ⟨⟨ro',h1⟩,h2⟩:=h
 have hne:0 ≠ k:=by
  rintro rfl
  rw [hk] at h1
  obtain ⟨e1,_,_⟩:=AObj.cells.inj (Option.some.inj h1)
  have:=congrArg List.length e1
  simp [partsC] at this
 exact ⟨⟨ro',by rw [ho 0 h2 hne]; exact h1⟩,Nat.lt_of_lt_of_le h2 hn⟩
structure Rd (v5 v6:Value) (l:List Pod) (pl:List Int) (n15:Nat) (vr vh vg:Value) (R H G:List Int) (w:AW):Prop where
 l:PodsV w v5 l
 p:RowsV intC w v6 pl
 tr:w.heap.get n15=some (.cells [vr,vh,vg] 42 false)
 r:RowsV intC w vr R
 h:RowsV intC w vh H
 g:RowsV intC w vg G
 cr:∃ a n,vr=.slice a n n
 ch:∃ a n,vh=.slice a n n
 cg:∃ a n,vg=.slice a n n
 parts:PartsW w
 lt:n15 < w.next
section
variable {v5 v6 vr vh vg:Value} {l:List Pod} {pl R H G:List Int} {n15:Nat} {w w':AW}
theorem Rd.up (h:Rd v5 v6 l pl n15 vr vh vg R H G w) (u:Up w w'):Rd v5 v6 l pl n15 vr vh vg R H G w' :=
 ⟨h.l.old u.old u.next,h.p.up u,by rw [u.at h.lt]; exact h.tr,h.r.up u,h.h.up u,h.g.up u,h.cr,h.ch,h.cg,h.parts.old u.old u.next,Nat.lt_of_lt_of_le h.lt u.next⟩
theorem Rd.skip {k:Nat} {a a':Option Addr} {n c n' c':Nat} {ty:TypeId} {ro:Bool} (h:Rd v5 v6 l pl n15 vr vh vg R H G w) (hk:w.heap.get k=some (.cells [.slice a n c,.slice a' n' c'] ty ro)) (ho:∀ x,x < w.next→x ≠ k→w'.heap.get x=w.heap.get x) (hn:w.next≤w'.next) (hne:n15 ≠ k):Rd v5 v6 l pl n15 vr vh vg R H G w' :=
 ⟨h.l.skipN hk ho hn,rows_skipN h.p hk ho hn,by rw [ho n15 h.lt hne]; exact h.tr,rows_skipN h.r hk ho hn,rows_skipN h.h hk ho hn,rows_skipN h.g hk ho hn,h.cr,h.ch,h.cg,h.parts.skipN hk ho hn,Nat.lt_of_lt_of_le h.lt hn⟩
end
theorem RowsA.one {α:Type} {f:α→List Value} {m:Nat} (hf:∀ a,(f a).length=m) {H:T AObj} {n b off i:Nat} {L:List α} {a:α} (h:RowsA f H n b off L) (ha:L[i]?=some a):RowsA f H n b (off + i * m) [a]:=by
 obtain ⟨⟨pre,rest,e,ro,h1,h2⟩,h3⟩:=h
 obtain ⟨hi,ha'⟩:=List.getElem?_eq_some_iff.1 ha
 refine ⟨⟨pre++(L.take i).flatMap f,(L.drop (i + 1)).flatMap f++rest,e,ro,?_,?_⟩,h3⟩
 ·rw [h1]
  have e1:L=L.take i++(a::L.drop (i + 1)):=by rw [← ha',← List.drop_eq_getElem_cons hi,List.take_append_drop]
  have e2:L.flatMap f=(L.take i).flatMap f++(f a++(L.drop (i + 1)).flatMap f):=by
   conv=>lhs; rw [e1]
   rw [List.flatMap_append,List.flatMap_cons]
  rw [e2]
  simp only [List.flatMap_cons,List.flatMap_nil,List.append_nil,List.append_assoc]
 ·rw [List.length_append,h2,flat_length hf,List.length_take,Nat.min_eq_left (Nat.le_of_lt hi)]
theorem mid_row {w:AW} {v:Value} {L:List Int} (h:RowsV intC w v L) (hc:∃ a n,v=.slice a n n) {i:Nat} {r:Int} (hr:L[i]?=some r) :
  ∃ a n c,(∀ w',Up w w'→sliceA Tryz.prog w' 23 v (some (.int .i64 (i:Int))) (some (.int .i64 ((i:Int) + 1))) none=.val (.slice a n c) w'∧RowsV intC w' (.slice a n c) [r])∧sameVal 5 v v=true∧notJunk v=some v:=by
 obtain ⟨hi,_⟩:=List.getElem?_eq_some_iff.1 hr
 obtain ⟨b,off,sq,c,rfl,hA⟩:=h.at_ i hi
 obtain ⟨a0,n0,e0⟩:=hc
 simp only [Value.slice.injEq] at e0
 obtain ⟨_,e1,e2⟩:=e0
 have hcl:c=L.length:=by rw [e2,← e1]
 subst hcl
 obtain ⟨⟨pre,rest,e,ro,h1,h2⟩,h3⟩:=id hA
 refine ⟨some ⟨b,off + i * 1,bif Nat.beq 3 e && sq.isNone then none else some 1⟩,1,L.length - i,fun w' u=>?_,sameN_slice 4 _ _ _,rfl⟩
 have hs:=slice_mid (P:=Tryz.prog) (st:=23) (sz:=1) elem23 size3 (w:=w') (a:=⟨b,off,sq⟩) (n:=L.length) (c:=L.length) (lo:=i) (k:=i + 1) (by rw [u.at h3]; exact h1) (by omega) (by omega)
 have e3:((i + 1:Nat):Int)=(i:Int) + 1:=by omega
 rw [e3,show i + 1 - i=1 by omega] at hs
 exact ⟨hs,.inr ⟨b,off + i * 1,_,_,rfl,RowsA.one intC_length (hA.old u.old u.next) hr⟩⟩
noncomputable def F9:PureF:=fun args _=>match args with | [.int .i64 n,.int .i64 a,.int .i64 b]=>some (.bool (inI a n b)) | _=>none
theorem r9m {ov:Ov} (h9:HasP ov 9 F9) (m:Nat) (n a b:Int) (w:AW):(run Tryz.prog ov (m + 1)).call 9 [.int .i64 n,.int .i64 a,.int .i64 b] w .none=.ok (.ret (.bool (inI a n b))) w .none:=h9.call rfl
theorem bs22p (w:AW) (p:Pod):buildSliceA Tryz.prog w 22 1 [(0,.agg ⟨podC p⟩)]=.val (.slice (some ⟨w.next,0,some 2⟩) 1 1) ⟨w.heap.put w.next (some (.cells (podC p) 45 false)),w.next + 1,w.lim⟩:=bd22_0_n1 w _ _ _ _ _ _ _ _
section
variable {ov:Ov} {w0 w:AW} {n11 n15:Nat} {pv dv qv v5 v6 vr vh vg:Value} {l:List Pod} {pl R H G:List Int} {ps:List Pt} {ds:List Dt} {qs:List Int} {BP BD BW:Nat} {pr pt C O:Int} {i:Nat}
theorem partC (m:Nat) (o10:∀ args w,ov 10 args w=none) (h8:HasP ov 8 F8) (h9:HasP ov 9 F9) (h:Lp w0 n11 n15 pv dv qv ps ds qs BP BD BW w) (hR:Rd v5 v6 l pl n15 vr vh vg R H G w) (hlen:ds.length≤900) (hpl:ps.length≤900) (hql:qs.length≤900) (hi:i≤5) (hC:0≤C∧C≤1000000) (hO:0≤O∧O≤1000000)
  {p:Pod} {d r k g:Int} (hr:R[i]?=some r) (hk:H[i]?=some k) (hg:G[i]?=some g) (hN:PodN pr pt (loS [p] [d]).ripe (harY [p] [d] [r] [k] [g]).ripe (hiS [p] [d]).ripe) (e1:harE [p] [d] [r] [k] [g]=0)
  (a17 a18:Option Addr) (c17 c18 l17 l18 n19:Nat) (h17:PodsV w (.slice a17 l17 c17) [p]) (h18:RowsV intC w (.slice a18 l18 c18) [d]) (g19:w.heap.get n19=some (.cells (wgC [p] [d]) 29 false)) (hn19:n19 < w.next)
  (Q:Ex→Tm→AW→Prop) (t:Tm) (hT:Tp v5 v6 pr pt C O n11 n15 qv i t) (t17:tget t 17=.slice a17 l17 c17) (t18:tget t 18=.slice a18 l18 c18) (t19:tget t 19=.pointer (some ⟨n19,0,none⟩)) (t20:tget t 20=.int .i64 0)
  (hQ:∀ t w pv' dv' qv' BP' BD' BW',Lp w0 n11 n15 pv' dv' qv' (ps++[⟨growS i,0⟩]) (ds++lend1 i (lnI pr pt (loS [p] [d]).ripe,pr * (harY [p] [d] [r] [k] [g]).ripe)) (qs++[pr * (harY [p] [d] [r] [k] [g]).ripe - lnI pr pt (loS [p] [d]).ripe]) BP' BD' BW' w→Tp v5 v6 pr pt (C + (pr * (hiS [p] [d]).ripe - lnI pr pt (loS [p] [d]).ripe)) (O + (pr * (harY [p] [d] [r] [k] [g]).ripe - lnI pr pt (loS [p] [d]).ripe)) n11 n15 qv' i t→Q .normal t w):wp (exM Tryz.prog (run Tryz.prog ov (m + 1)) mc3_l0_c t w) Q:=by
 have hT':=hT
 obtain ⟨t5,t6,t9,t10,t11,t12,t13,t14,t15,t16⟩:=hT'
 obtain ⟨x1,n1,c1,s1,sv1,nj1⟩:=mid_row hR.r hR.cr hr
 obtain ⟨x2,n2,c2,s2,sv2,nj2⟩:=mid_row hR.h hR.ch hk
 obtain ⟨x3,n3,c3,s3,sv3,nj3⟩:=mid_row hR.g hR.cg hg
 have htr:=hR.tr
 have hlt:=hR.lt
 have hlw:w.lim≤w.next:=by have:=h.hlim; have:=h.h11; have:=h.h15; have:=h.next; have:=h.lim; omega
 obtain ⟨w1,hw1⟩:∃ w1:AW,w1=⟨w.heap.put w.next (some (.cells [.int .i64 0,.int .i64 0,.int .i64 0,.int .i64 0] 47 false)),w.next + 1,w.lim⟩:=⟨_,rfl⟩
 have u1:Up w w1:=by rw [hw1]; exact (Up.refl w).add _
 have hR1:=hR.up u1
 have r8:=rule8 h8 hR1.parts (h17.old u1.old u1.next).podsIn (h18.up u1) (s1 w1 u1).2 (s2 w1 u1).2 (s3 w1 u1).2 m
 rw [e1] at r8
 obtain ⟨Y,hY⟩:∃ Y,Y=harY [p] [d] [r] [k] [g]:=⟨_,rfl⟩
 rw [← hY] at r8 hN hQ
 obtain ⟨w2,hw2⟩:∃ w2:AW,w2=⟨w1.heap.put w.next (some (.cells (ylC Y) 47 false)),w1.next,w1.lim⟩:=⟨_,rfl⟩
 have u2:Up w w2:=by
  rw [hw2]
  exact ⟨fun b hb=>by show (w1.heap.put _ _).get b=_; rw [get_put,if_neg (by omega)]; exact u1.at hb,u1.next,u1.lim⟩
 have hI:inI (loS [p] [d]).ripe Y.ripe (hiS [p] [d]).ripe=true:=by simp only [inI,Bool.and_eq_true,decide_eq_true_eq]; exact ⟨hN.ly,hN.yh⟩
 have r9:=fun w=>r9m h9 m Y.ripe (loS [p] [d]).ripe (hiS [p] [d]).ripe w
 rw [hI] at r9
 have g192:w2.heap.get n19=some (.cells (wgC [p] [d]) 29 false):=by rw [u2.at hn19]; exact g19
 have g212:w2.heap.get w.next=some (.cells (ylC Y) 47 false):=by rw [hw2]; simp
 have fin:∀ t:Tm,Tp v5 v6 pr pt C O n11 n15 qv i t→tget t 19=.pointer (some ⟨n19,0,none⟩)→tget t 21=.pointer (some ⟨w.next,0,none⟩)→wp (exM Tryz.prog (run Tryz.prog ov (m + 1)) mc3_l0_b1 t w2) Q:=fun t hT t19 t21 =>
  body1 m o10 (h.up u2) hlen hpl hql hi hN hC hO n19 w.next _ _ _ _ _ _ _ g192 g212 Q t hT t19 t21 hQ
 have q1:=fun w' u=>(s1 w' u).1
 have q2:=fun w' u=>(s2 w' u).1
 have q3:=fun w' u=>(s3 w' u).1
 have q10:=q1 w (Up.refl w); have q20:=q2 w (Up.refl w); have q30:=q3 w (Up.refl w)
 have q11:=q1 w1 u1; have q21:=q2 w1 u1; have q31:=q3 w1 u1
 have z1:sameVal 5 (.slice x1 n1 c1) (.slice x1 n1 c1)=true:=sameN_slice 4 _ _ _
 have z2:sameVal 5 (.slice x2 n2 c2) (.slice x2 n2 c2)=true:=sameN_slice 4 _ _ _
 have z3:sameVal 5 (.slice x3 n3 c3) (.slice x3 n3 c3)=true:=sameN_slice 4 _ _ _
 have hwi:IntKind.wrap .i64 ((i:Int) + 1)=(i:Int) + 1:=wrap64_in (by omega) (by omega)
 have m1:¬ n15=w.next:=by omega
 have m2:¬ n19=w.next:=by omega
 clear q1 q2 q3 s1 s2 s3
 simp only [wgC] at g19
 simp only [ylC] at r8 fin hw2
 rw [hw2,hw1] at fin
 rw [hw1] at r8 q11 q21 q31
 simp only at fin
 simp [mc3_l0_c,t15,t16,t17,t18,t19,t20,htr,hwi,q10,q20,q30,q11,q21,q31,z1,z2,z3,sv1,sv2,sv3,nj1,nj2,nj3,m1,m2,r8,hlw,g19,r9]
 exact fin _ (by constructor <;> simp [t5,t6,t9,t10,t11,t12,t13,t14,t15,t16]) (by simp [t19]) (by simp)
end
section
variable {ov:Ov} {w0 w:AW} {n11 n15:Nat} {pv dv qv v5 v6 vr vh vg:Value} {l:List Pod} {pl R H G:List Int} {ps:List Pt} {ds:List Dt} {qs:List Int} {BP BD BW:Nat} {pr pt C O:Int} {i:Nat}
theorem body0 (m:Nat) (o10:∀ args w,ov 10 args w=none) (h4:HasP ov 4 F4) (h8:HasP ov 8 F8) (h9:HasP ov 9 F9) (h:Lp w0 n11 n15 pv dv qv ps ds qs BP BD BW w) (hR:Rd v5 v6 l pl n15 vr vh vg R H G w) (hlen:ds.length≤900) (hpl:ps.length≤900) (hql:qs.length≤900) (hi:i≤5) (hC:0≤C∧C≤1000000) (hO:0≤O∧O≤1000000) (hpr:0≤pr∧pr≤40) (hpt:0≤pt∧pt≤1000)
  (hB:podsB l=true) (hP:planB l pl=true) (hTr:truthB l R H G=true) {p:Pod} {d r k g:Int} (hp:l[i]?=some p) (hd:pl[i]?=some d) (hr:R[i]?=some r) (hk:H[i]?=some k) (hg:G[i]?=some g)
  (Q:Ex→Tm→AW→Prop) (t:Tm) (hT:Tp v5 v6 pr pt C O n11 n15 qv i t)
  (hQ:∀ t w pv' dv' qv' BP' BD' BW',Lp w0 n11 n15 pv' dv' qv' (ps++[⟨growS i,0⟩]) (ds++lend1 i (lnI pr pt (loS [p] [d]).ripe,pr * (harY [p] [d] [r] [k] [g]).ripe)) (qs++[pr * (harY [p] [d] [r] [k] [g]).ripe - lnI pr pt (loS [p] [d]).ripe]) BP' BD' BW' w→Tp v5 v6 pr pt (C + (pr * (hiS [p] [d]).ripe - lnI pr pt (loS [p] [d]).ripe)) (O + (pr * (harY [p] [d] [r] [k] [g]).ripe - lnI pr pt (loS [p] [d]).ripe)) n11 n15 qv' i t→Q .normal t w):wp (exM Tryz.prog (run Tryz.prog ov (m + 1)) mc3_l0_b0 t w) Q:=by
 obtain ⟨e0,e1,q0,q1,q2,q3⟩:=one_lies (pods_all hB hp) (plan_at hP hp hd) (truth_at hTr hp hr hk hg)
 have hN:PodN pr pt (loS [p] [d]).ripe (harY [p] [d] [r] [k] [g]).ripe (hiS [p] [d]).ripe:=⟨hpr.1,hpr.2,hpt.1,hpt.2,q0,q1,q2,q3⟩
 obtain ⟨hli,_⟩:=List.getElem?_eq_some_iff.1 hp
 obtain ⟨hdi,_⟩:=List.getElem?_eq_some_iff.1 hd
 obtain ⟨b,sq,c,e5,hpa⟩:=hR.l.at_ i hli
 obtain ⟨b2,off2,sq2,c2,e6,hra⟩:=hR.p.at_ i hdi
 have hlw:w.lim≤w.next:=by have:=h.hlim; have:=h.h11; have:=h.h15; have:=h.next; have:=h.lim; omega
 obtain ⟨w1,hw1⟩:∃ w1:AW,w1=⟨w.heap.put w.next (some (.cells (podC p) 45 false)),w.next + 1,w.lim⟩:=⟨_,rfl⟩
 have u1:Up w w1:=by rw [hw1]; exact (Up.refl w).add _
 have n1:w1.next=w.next + 1:=by rw [hw1]
 obtain ⟨w2,hw2⟩:∃ w2:AW,w2=⟨w1.heap.put (w.next + 1) (some (.cells [.int .i64 d] 3 false)),w.next + 1 + 1,w1.lim⟩:=⟨_,rfl⟩
 have u12:Up w1 w2:=by rw [hw2,← n1]; exact (Up.refl w1).add _
 have u2:=u1.trans u12
 have n2:w2.next=w.next + 1 + 1:=by rw [hw2]
 have hR2:=hR.up u2
 have P2:PodsV w2 (.slice (some ⟨w.next,0,some 2⟩) 1 1) [p]:=.inr ⟨w.next,some 2,1,rfl,⟨[],45,false,by rw [hw2,hw1]; simp [podsC]⟩,by omega⟩
 have D2:RowsV intC w2 (.slice (some ⟨w.next + 1,0,some 2⟩) 1 1) [d]:=.inr ⟨w.next + 1,0,some 2,1,rfl,⟨[],[],3,false,by rw [hw2]; simp [intC],rfl⟩,by omega⟩
 have r4:=rule4 h4 hR2.parts P2.podsIn D2 m
 have ew:weiV [p] [d]=.tuple ⟨[.agg ⟨wgC [p] [d]⟩,.int .i64 0]⟩:=by unfold weiV weiC; rw [if_pos e0,e0]
 rw [ew] at r4
 obtain ⟨w3,hw3⟩:∃ w3:AW,w3=⟨(w2.heap.put w2.next (some (.cells [.int .i64 0,.int .i64 0,.int .i64 0,.int .i64 0,.int .i64 0,.int .i64 0] 29 false))).put w2.next (some (.cells (wgC [p] [d]) 29 false)),w2.next + 1,w2.lim⟩:=⟨_,rfl⟩
 have u23:Up w2 w3:=by rw [hw3]; exact ((Up.refl w2).add _).put (Nat.le_refl _) (Nat.le_refl _)
 have u3:=u2.trans u23
 have g19:w3.heap.get w2.next=some (.cells (wgC [p] [d]) 29 false):=by rw [hw3]; simp
 have n3:w3.next=w2.next + 1:=by rw [hw3]
 have fin:∀ t:Tm,Tp v5 v6 pr pt C O n11 n15 qv i t→tget t 17=.slice (some ⟨w.next,0,some 2⟩) 1 1→tget t 18=.slice (some ⟨w.next + 1,0,some 2⟩) 1 1→tget t 19=.pointer (some ⟨w2.next,0,none⟩)→tget t 20=.int .i64 0→wp (exM Tryz.prog (run Tryz.prog ov (m + 1)) mc3_l0_c t w3) Q:=fun t hT t17 t18 t19 t20 =>
  partC m o10 h8 h9 (h.up u3) (hR.up u3) hlen hpl hql hi hC hO hr hk hg hN e1 _ _ _ _ _ _ _ (P2.old u23.old u23.next) (D2.up u23) g19 (by omega) Q t hT t17 t18 t19 t20 hQ
 obtain ⟨t5,t6,t9,t10,t11,t12,t13,t14,t15,t16⟩:=hT
 have hia:=fun w=>ia22 w ⟨b,0,sq⟩ l.length c .i64 i hli
 have hia2:=fun w=>ia23 w ⟨b2,off2,sq2⟩ pl.length c2 .i64 i hdi
 have hld:=load_pod' hpa hp
 have hld2:=hra.int hd
 have sp:=same_pod p
 have b1:¬ b=w.next:=by have:=hpa.lt; omega
 have b1':¬ b=w.next + 1:=by have:=hpa.lt; omega
 have b3:¬ b2=w.next:=by have:=hra.2; omega
 have b3':¬ b2=w.next + 1:=by have:=hra.2; omega
 have bs:=fun w=>bs22p w p
 have si:∀ z:Int,sameVal 5 (.int .i64 z) (.int .i64 z)=true:=fun z=>sameN_int 4 _ _
 have hl2:w2.lim≤w2.next:=by rw [u2.lim,n2]; omega
 simp only [wgC] at r4 fin hw3
 rw [e5] at t5 fin
 rw [e6] at t6 fin
 rw [hw3] at fin
 simp only [hw2,hw1] at r4 fin hl2
 simp [mc3_l0_b0,t5,t6,t16,hia,hia2,hld,hld2,bs,sp,si,b1,b1',b3,b3',r4,hlw,hl2]
 exact fin _ (by constructor <;> simp [t5,t6,t9,t10,t11,t12,t13,t14,t15,t16]) (by simp) (by simp) (by simp) (by simp)
end
end Go.Proofs.YtijlaopbnigkaaaGreatDoor.walk
