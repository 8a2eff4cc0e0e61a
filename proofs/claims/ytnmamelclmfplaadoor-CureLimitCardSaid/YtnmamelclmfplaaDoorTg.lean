/- Part of a proof: see the text with the theorem. -/
import Derived.Test.YtnmamelclmfplaaDoorTf
import Derived.Test.YtnmamelclmfplaaDoorTb
set_option linter.all false
namespace Go.Proofs.YtnmamelclmfplaaDoor.walk
open Go Go.Sh
set_option maxRecDepth 100000
theorem ez:([.int .i64 0,.int .i64 0,.int .i64 0,.int .i64 0,.int .i64 0,.int .i64 0,.int .i64 0,.int .i64 0,.int .i64 0,.int .i64 0,.int .i64 0,.int .i64 0,.int .i64 0,.int .i64 0,.int .i64 0,.int .i64 0,.int .i64 0,.int .i64 0,.int .i64 0,.int .i64 0,.int .i64 0,.int .i64 0,.int .i64 0,.int .i64 0,.int .i64 0,.int .i64 0,.int .i64 0,.int .i64 0,.int .i64 0,.int .i64 0,.int .i64 0,.int .i64 0]:List Value)=zerC:=rfl
theorem narW_length {L:List Sp} {N:Nat}:∀ {f:Nat} {W V:List Sp},N < W.length→narW L N f W=some V→V.length=W.length
 | 0,W,V,_,h=>by cases h; rfl
 | f + 1,W,V,hN,h=>by
  simp only [narW] at h
  cases hp:passW L N W with
  | none=>rw [hp] at h; cases h
  | some V' =>
   rw [hp] at h
   have hl:=(passW_fn hp hN).2
   simp only at h
   split at h
   ·cases h; exact hl
   ·rw [narW_length (hl ▸ hN) h,hl]
def weighF (b:CBox) (L:List Sp) (l:List CRead):Option (List Sp):=narW (losL L) (losL L).length 40 (mkW (iniF b L.length l (L.length + 1)))
def S86:PSpec where
 R args w v:=∃ (b:CBox) (pv lv:Value) (L:List Sp) (l:List CRead),args=[.agg ⟨procC b pv⟩,lv]∧ProcV w pv L∧L.length≤14∧LosW (losL L)∧boxB b=true∧RowsV readC w lv l∧l.length≤10∧ReadOk l∧LimW w∧w.lim≤w.next∧v=narR (weighF b L l)
 uniq:=by
  rintro _ _ _ _ ⟨⟨_,_,_,_⟩,pv,lv,L,l,rfl,h1,_,_,_,h2,_,_,_,_,rfl⟩ ⟨⟨_,_,_,_⟩,pv',lv',L',l',h,k1,_,_,_,k2,_,_,_,_,rfl⟩
  simp only [procC,List.cons.injEq,Value.agg.injEq,Array.mk.injEq,Value.int.injEq,true_and,and_true] at h
  obtain ⟨⟨rfl,rfl,rfl,rfl,rfl⟩,rfl⟩:=h
  rw [h1.rows.uniq (m:=2) spC_length spC_inj k1.rows,h2.uniq (m:=3) readC_length readC_inj k2]
 shut:=fun ⟨a1,a2,a3,a4,a5,h1,h2,h3,h4,h5,h6,h7,h8,h9,_,h10⟩=>⟨a1,a2,a3,a4,a5,h1,h2,h3,h4,h5,h6,h7,h8,h9,Nat.le_refl _,h10⟩
structure In86 (w:AW) (b:CBox) (pv:Value) (f:Nat→Sp) (w':AW):Prop where
 up:Up w w'
 c2:w'.heap.get w.next=some (.cells [.int .i64 b.wl,.int .i64 b.wh,.int .i64 b.sl,.int .i64 b.sh,pv] 97 false)
 c4:w'.heap.get (w.next + 1)=some (.cells zerC 104 false)
 c6:w'.heap.get (w.next + 1 + 1)=some (.cells ((mkW f).flatMap spC) 104 false)
 next:w.next + 3≤w'.next
theorem In86.set {w w':AW} {b:CBox} {pv:Value} {f g:Nat→Sp} (h:In86 w b pv f w') (hg:∀ k,k < 16→f k=g k):In86 w b pv g w' :=
 ⟨h.up,h.c2,h.c4,by rw [← mkW_ext hg]; exact h.c6,h.next⟩
set_option maxHeartbeats 2000000 in
theorem run86 {ov:Ov} (ho:∀ args w,ov 86 args w=none) (ho103:∀ args w,ov 103 args w=none) (h64:HasP ov 64 S64.F) (h102:HasP ov 102 S102.F) (h104:HasP ov 104 S104.F) (b:CBox) (hb:boxB b=true) (L:List Sp) (hlen:L.length≤14) (hL:LosW (losL L)) (l:List CRead) (hl10:l.length≤10) (hR:ReadOk l) (pv lv:Value) (w:AW) (hl:w.lim=w.next) (hLim:LimW w) (hpv:ProcV w pv L) (hlv:RowsV readC w lv l) :
  ∃ x w',(run Tryd.prog ov 3).call 86 [.agg ⟨procC b pv⟩,lv] w .none=.ok (.ret x) w' .none∧x=narR (weighF b L l):=by
 refine call_wp text86 (by simp) (ho _ _) ?_
 obtain ⟨B,hpe,_,_⟩:=id hpv
 obtain ⟨ro,hg0⟩:=lim_at hLim
 have hp0:=hLim.2
 have r64:=fun w=>S64.call (P:=Tryd.prog) h64 (m:=1) (w:=w) ⟨b,some ⟨B,0,none⟩,L.length,L.length,rfl,by omega,rfl⟩
 rw [← hpe] at r64
 simp only [procC] at r64 ⊢
 simp only [Nat.reduceAdd] at r64
 have ok0:In86 w b pv (fun _=>(0,0)) ⟨((w.heap.put w.next (some (.cells [.int .i64 b.wl,.int .i64 b.wh,.int .i64 b.sl,.int .i64 b.sh,pv] 97 false))).put (w.next + 1) (some (.cells zerC 104 false))).put (w.next + 1 + 1) (some (.cells zerC 104 false)),w.next + 1 + 1 + 1,w.lim⟩ :=
  ⟨(((Up.refl w).add _).put (Nat.le_succ _) (Nat.le_succ _)).put (by show w.next≤w.next + 1 + 1; omega) (Nat.le_succ _),by simp,by simp,by simp [mkW_zero],by show w.next + 3≤w.next + 1 + 1 + 1; omega⟩
 simp [mc86,cellsOf_agg,ez,r64]
 refine wp_seqX (wp_blockX (wp_rounds (fun i t w'=>In86 w b pv (fun k=>if k < i then (1,1000000) else (0,0)) w'∧tget t 1=lv∧tget t 2=.pointer (some ⟨w.next,0,none⟩)∧tget t 4=.pointer (some ⟨w.next + 1,0,none⟩)∧tget t 6=.pointer (some ⟨w.next + 1 + 1,0,none⟩)∧tget t 10=.int .i64 ((L.length:Int) + 1)∧tget t 11=.int .i64 (i:Nat)∧i≤L.length + 1) 20 (by decide) ?_ ?_))
 ·exact ⟨ok0.set fun k _=>by simp,by simp,by simp,by simp,by simp,by simp,by simp,Nat.zero_le _⟩
 ·rintro i t w' ⟨hI,t1,t2,t4,t6,t10,t11,hi⟩
  have hlm:w'.lim=w.lim:=hI.up.lim
  have hnx:=hI.next
  have g0:w'.heap.get 0=some (.cells [.int .i64 0,.int .i64 60,.int .i64 1,.int .i64 14,.int .i64 0,.int .i64 10000,.int .i64 1,.int .i64 1000000,.int .i64 0,.int .i64 1010000,.int .i64 0,.int .i64 10000,.int .i64 0,.int .i64 1000] 141 ro):=by rw [hI.up.at hp0]; exact hg0
  have c2:=hI.c2; have c4:=hI.c4; have c6:=hI.c6
  have e2:¬ w.next=w.next + 1 + 1:=by omega
  have e4:¬ w.next + 1=w.next + 1 + 1:=by omega
  have lw:w'.lim≤w.next + 1 + 1:=by omega
  by_cases hlt:i < L.length + 1
  ·have hlt':(i:Int) < (L.length:Int) + 1:=by omega
   have hia:=fun w1=>ia104 w1 ⟨w.next + 1 + 1,0,none⟩ i (by omega)
   obtain ⟨tk,q⟩:=row_ld (W:=mkW fun k=>if k < i then (1,1000000) else (0,0)) (by simp) (i:=i) (by omega)
   have hcl:=row_len (W:=mkW fun k=>if k < i then (1,1000000) else (0,0)) (by simp)
   have hs:=row_st (W:=mkW fun k=>if k < i then (1,1000000) else (0,0)) (by simp) (i:=i) (by omega) (1,1000000)
   rw [mkW_set _ _ (by omega)] at hs
   generalize (mkW fun k=>if k < i then (1,1000000) else (0,0)).flatMap spC=cs at c6 tk hcl hs
   have hwi:IntKind.wrap .i64 ((i:Int) + 1)=(i:Int) + 1:=wrap64_in (by omega) (by omega)
   simp only at hs
   simp [mc86_l0,t1,t2,t4,t6,t10,t11,hlt',g0,hia,c6,hcl,q,lw,hwi,hs]
   refine ⟨by omega,⟨hI.up.put (by omega) (Nat.le_refl _),?_,?_,?_,hnx⟩,by omega⟩
   ·show (w'.heap.put _ _).get _=_
    rw [get_put,if_neg e2]; exact c2
   ·show (w'.heap.put _ _).get _=_
    rw [get_put,if_neg e4]; exact c4
   ·show (w'.heap.put _ _).get _=_
    rw [get_put,if_pos rfl]
    congr 3
    refine mkW_ext fun k _=>?_
    unfold updS
    dsimp only
    by_cases k1:k=i
    ·rw [if_pos k1,if_pos (by omega)]
    ·rw [if_neg k1]
     by_cases k2:k < i
     ·rw [if_pos k2,if_pos (by omega)]
     ·rw [if_neg k2,if_neg (by omega)]
  ·have hil:i=L.length + 1:=by omega
   subst hil
   have hnl:¬ (L.length:Int) + 1 < (L.length:Int) + 1:=by omega
   have hian:∀ w1,indexAddrA Tryd.prog w1 104 (.pointer (some ⟨w.next + 1 + 1,0,none⟩)) (.int .i64 ((L.length:Int) + 1))=.val (.pointer (some ((⟨w.next + 1 + 1,0,none⟩:Addr).add ((L.length + 1) * 2)))) w1:=fun w1=>by
    have:=ia104 w1 ⟨w.next + 1 + 1,0,none⟩ (L.length + 1) (by omega)
    rw [show ((L.length + 1:Nat):Int)=(L.length:Int) + 1 by omega] at this
    exact this
   have hia0:=fun w1=>ia104_0 w1 ⟨w.next + 1 + 1,0,none⟩
   have hcl:=row_len (W:=mkW fun k=>if k < L.length + 1 then (1,1000000) else (0,0)) (by simp)
   have hs0:=row_st (W:=mkW fun k=>if k < L.length + 1 then (1,1000000) else (0,0)) (by simp) (i:=0) (by omega) (b.wl,b.wh)
   rw [mkW_set _ _ (by omega)] at hs0
   obtain ⟨f1,hf1⟩:∃ f1,f1=updS (fun k=>if k < L.length + 1 then ((1,1000000):Sp) else (0,0)) 0 (b.wl,b.wh):=⟨_,rfl⟩
   rw [← hf1] at hs0
   have hcl1:=row_len (W:=mkW f1) (by simp)
   have hs1:=row_st (W:=mkW f1) (by simp) (i:=L.length + 1) (by omega) (b.sl,b.sh)
   rw [mkW_set _ _ (by omega)] at hs1
   have hf2:mkW (updS f1 (L.length + 1) (b.sl,b.sh))=mkW (iniF b L.length l 0):=mkW_ext fun k _=>by
    rw [hf1]
    unfold updS iniF iniG
    rw [if_neg (by omega:¬ k < 0)]
   rw [hf2] at hs1
   generalize (mkW fun k=>if k < L.length + 1 then ((1,1000000):Sp) else (0,0)).flatMap spC=cs at c6 hcl hs0
   obtain ⟨cs1,hcs1⟩:∃ cs1,cs1=(mkW f1).flatMap spC:=⟨_,rfl⟩
   rw [← hcs1] at hs0 hs1 hcl1
   have q1:(L.length + 1) * 2 + 2≤32:=by omega
   simp only [Nat.zero_mul,List.take_zero,List.nil_append,Nat.zero_add] at hs0
   simp only at hs1
   simp [mc86_l0,t1,t2,t4,t6,t10,t11,hnl,c2,r64,hia0,hian,c6,hcl,lw,e2,hs0,hcl1,q1,hs1]
   refine wp_seqX (wp_blockX (wp_rounds (fun i t w2=>In86 w b pv (iniF b L.length l i) w2∧tget t 1=lv∧tget t 2=.pointer (some ⟨w.next,0,none⟩)∧tget t 4=.pointer (some ⟨w.next + 1,0,none⟩)∧tget t 6=.pointer (some ⟨w.next + 1 + 1,0,none⟩)∧tget t 30=.int .i64 ((L.length:Int) + 1)∧tget t 31=.int .i64 (i:Nat)∧i≤L.length + 1) 20 (by decide) ?_ ?_))
   ·refine ⟨⟨(hI.up.put (by omega) (Nat.le_refl _)).put (by omega) (Nat.le_refl _),?_,?_,?_,hnx⟩,by simp [t1],by simp [t2],by simp [t4],by simp [t6],by simp,by simp,Nat.zero_le _⟩
    ·show ((w'.heap.put _ _).put _ _).get _=_
     rw [get_put,if_neg e2,get_put,if_neg e2]; exact c2
    ·show ((w'.heap.put _ _).put _ _).get _=_
     rw [get_put,if_neg e4,get_put,if_neg e4]; exact c4
    ·show ((w'.heap.put _ _).put _ _).get _=_
     rw [get_put,if_pos rfl]
   ·clear hI t1 t2 t4 t6 t10 t11 c2 c4 c6 g0 hlm hnx hs0 hs1 hcs1 hcl hcl1 hi
    rintro i t w2 ⟨hI,t1,t2,t4,t6,t30,t31,hi⟩
    have hlm:w2.lim=w.lim:=hI.up.lim
    have hnx:=hI.next
    have c2:=hI.c2; have c4:=hI.c4; have c6:=hI.c6
    by_cases hlt:i < L.length + 1
    ·have hlt':(i:Int) < (L.length:Int) + 1:=by omega
     have hia:=fun w1=>ia104 w1 ⟨w.next + 1 + 1,0,none⟩ i (by omega)
     obtain ⟨tk,q⟩:=row_ld (W:=mkW (iniF b L.length l i)) (by simp) (i:=i) (by omega)
     rw [mkW_at _ (by omega)] at tk
     have ei:iniF b L.length l i i=iniG b L.length i:=by unfold iniF; rw [if_neg (by omega)]
     rw [ei] at tk
     have hcl:=row_len (W:=mkW (iniF b L.length l i)) (by simp)
     have hs:=row_st (W:=mkW (iniF b L.length l i)) (by simp) (i:=i) (by omega) (foldR (onDay l i) (iniG b L.length i))
     rw [mkW_set _ _ (by omega)] at hs
     have hnext:mkW (updS (iniF b L.length l i) i (foldR (onDay l i) (iniG b L.length i)))=mkW (iniF b L.length l (i + 1)):=mkW_ext fun k _=>by
      unfold updS iniF
      by_cases k1:k=i
      ·rw [if_pos k1,if_pos (by omega),k1]
      ·rw [if_neg k1]
       by_cases k2:k < i
       ·rw [if_pos k2,if_pos (by omega)]
       ·rw [if_neg k2,if_neg (by omega)]
     rw [hnext] at hs
     generalize hcse:(mkW (iniF b L.length l i)).flatMap spC=cs at c6 tk hcl hs
     obtain ⟨v103,w3,c103,hrow3,u3⟩:=call103 (ov:=ov) 1 ho103 l hl10 i lv w2 (by omega) (hlv.up hI.up)
     simp only [Nat.reduceAdd] at c103
     have hl3:=u3.lim
     have hn3:=u3.next
     have c63:w3.heap.get (w.next + 1 + 1)=some (.cells cs 104 false):=by rw [u3.at (by omega)]; exact c6
     have hfl:(onDay l i).length≤10:=by
      have h1:=List.length_filter_le (fun p:CRead=>decide (p.day=(i:Int))) l
      unfold onDay; omega
     have r102:=S102.call (P:=Tryd.prog) h102 (m:=1) (w:=w3) ⟨iniG b L.length i,onDay l i,v103,rfl,hrow3,hfl,fun p hp=>by have:=day_ok hR i p hp; unfold smallR; omega,by omega,rfl⟩
     change _=RO.ok (Out.ret (.agg ⟨spC (foldR (onDay l i) (iniG b L.length i))⟩)) _ _ at r102
     simp only [spC,Nat.reduceAdd] at r102
     have lw:w3.lim≤w.next + 1 + 1:=by omega
     have hwi:IntKind.wrap .i64 ((i:Int) + 1)=(i:Int) + 1:=wrap64_in (by omega) (by omega)
     simp [mc86_l1,t1,t2,t4,t6,t30,t31,hlt',hia,c6,hcl,q,tk,c103,c63,r102,lw,hs,hwi]
     refine ⟨by omega,⟨(hI.up.trans u3).put (by omega) (Nat.le_refl _),?_,?_,?_,by show w.next + 3≤w3.next; omega⟩,by omega⟩
     ·show (w3.heap.put _ _).get _=_
      rw [get_put,if_neg e2,u3.at (by omega)]; exact c2
     ·show (w3.heap.put _ _).get _=_
      rw [get_put,if_neg e4,u3.at (by omega)]; exact c4
     ·show (w3.heap.put _ _).get _=_
      rw [get_put,if_pos rfl]
    ·have hil:i=L.length + 1:=by omega
     subst hil
     have hW16:(mkW (iniF b L.length l (L.length + 1))).length=16:=by simp
     have r104:=S104.call (P:=Tryd.prog) h104 (m:=1) (w:=w2) ⟨b,pv,L,mkW (iniF b L.length l (L.length + 1)),rfl,hpv.up hI.up,hlen,hL,hW16,mkW_bnd fun k=>iniF_bnd hb hR _ _ k,by omega,rfl⟩
     have hcl:=row_len hW16
     have htk:((mkW (iniF b L.length l (L.length + 1))).flatMap spC).take 32=(mkW (iniF b L.length l (L.length + 1))).flatMap spC:=List.take_of_length_le (by omega)
     change _=RO.ok (Out.ret (narR (weighF b L l))) _ _ at r104
     simp only [procC,Nat.reduceAdd] at r104
     generalize (mkW (iniF b L.length l (L.length + 1))).flatMap spC=cs at c6 hcl htk r104
     have lw4:w2.lim≤w.next + 1:=by omega
     have hz:zerC.length=32:=rfl
     have hzt:zerC.take 32=zerC:=rfl
     have hzd:zerC.drop 32=[]:=rfl
     have hzs:singles zerC=true:=rfl
     cases hN:weighF b L l with
     | none =>
      rw [hN] at r104
      simp only [narR] at r104
      simp [mc86_l1,t1,t2,t4,t6,t30,t31,c2,c6,hcl,htk,r104,c4,lw4,hz,hzt,hzd,hzs,cellsOf_agg,narR,tupV]
     | some V =>
      rw [hN] at r104
      simp only [narR] at r104
      have hV16:V.length=16:=by
       have:=narW_length (by rw [hW16]; simp; omega) hN
       rw [this,hW16]
      have hVl:=row_len hV16
      have hVt:(V.flatMap spC).take 32=V.flatMap spC:=List.take_of_length_le (by omega)
      have hVs:=row_sing V
      simp [mc86_l1,t1,t2,t4,t6,t30,t31,c2,c6,hcl,htk,r104,c4,lw4,hz,hzd,hVl,hVt,hVs,cellsOf_agg,narR,tupV]
theorem emp_not {s:Sp} {x:Int} (h:inn x s):empS s=false:=by
 unfold inn at h; unfold empS
 exact decide_eq_false (by omega)
theorem pass_sol {L W V:List Sp} {d N:Nat} (hN:N < W.length) (hd:d≤N) (h:passW L d W=some V) (x:Nat→Int):SolS N (gtS L) (gtS V) x ↔ SolS N (gtS L) (gtS W) x:=by
 obtain ⟨e,_⟩:=passW_fn h (by omega)
 rw [e]; exact passS_sol d hd
theorem pass_no {L W:List Sp} {N:Nat} (hN:N < W.length):∀ d,d≤N→passW L d W=none→∀ x,¬ SolS N (gtS L) (gtS W) x
 | 0,_,h=>by cases h
 | d + 1,hd,h=>by
  intro x hx
  simp only [passW] at h
  cases hp:passW L d W with
  | none=>exact pass_no hN d (by omega) hp x hx
  | some V =>
   rw [hp] at h
   simp only at h
   have hl:=(passW_fn hp (by omega)).2
   have h1:=(pass_sol hN (by omega) hp x).2 hx
   have h2:=(stepS_sol (N:=N) (L:=gtS L) (U:=gtS V) (d:=d) (by omega)).2 h1
   rw [← stepW_fn (by omega)] at h2
   have h3:=emp_not (h2.1 d (by omega))
   have h4:=emp_not (h2.1 (d + 1) (by omega))
   have hb:badW (stepW L V d) d=false:=by unfold badW; rw [h3,h4]; rfl
   rw [hb] at h
   simp at h
theorem nar_none {L:List Sp} {N:Nat}:∀ {f:Nat} {W:List Sp},N < W.length→narW L N f W=none→∀ x,¬ SolS N (gtS L) (gtS W) x
 | 0,W,_,h=>by cases h
 | f + 1,W,hN,h=>by
  simp only [narW] at h
  cases hp:passW L N W with
  | none=>exact pass_no hN N (Nat.le_refl _) hp
  | some V =>
   rw [hp] at h
   simp only at h
   have hl:=(passW_fn hp hN).2
   split at h
   ·cases h
   ·intro x hx
    exact nar_none (by omega) h x ((pass_sol hN (Nat.le_refl _) hp x).2 hx)
structure FixW (L:List Sp) (N:Nat) (W V:List Sp):Prop where
 fix:passW L N V=some V
 len:V.length=W.length
 sol:∀ x,SolS N (gtS L) (gtS V) x ↔ SolS N (gtS L) (gtS W) x
 sub:∀ k,subS (gtS V k) (gtS W k)
theorem nar_fix {L:List Sp} {N:Nat} (hL:LosW L) (h0:0 < N):∀ {f i:Nat} {W V:List Sp},N < W.length→FarW L N i W→i≤N→N < f + i→narW L N f W=some V→FixW L N W V
 | 0,i,W,V,_,_,h1,h2,_=>by omega
 | f + 1,i,W,V,hN,hF,hi,hf,h=>by
  simp only [narW] at h
  cases hp:passW L N W with
  | none=>rw [hp] at h; cases h
  | some V' =>
   rw [hp] at h
   simp only at h
   obtain ⟨e,hl⟩:=passW_fn hp hN
   have hs:=pass_sol hN (Nat.le_refl _) hp
   have hb:∀ k,subS (gtS V' k) (gtS W k):=fun k=>by
    rw [e]
    have:=passS_sub (gtS L) (gtS W) k 0 N
    rwa [Nat.zero_add] at this
   by_cases hVW:V'=W
   ·rw [if_pos hVW] at h
    cases h
    exact ⟨by rw [hVW] at hp ⊢; exact hp,hl,hs,hb⟩
   ·rw [if_neg hVW] at h
    have hiN:i < N:=by
     rcases Nat.lt_or_ge i N with h | h
     ·exact h
     ·exact absurd (far_end hL hN h0 hF h hp) hVW
    have r:=nar_fix hL h0 (f:=f) (i:=i + 1) (by omega) (far_next hL hN hF hp) (by omega) (by omega) h
    exact ⟨r.fix,by rw [r.len,hl],fun x=>(r.sol x).trans (hs x),fun k=>(r.sub k).trans (hb k)⟩
theorem fix_at {L V:List Sp} {N:Nat} (hN:N < V.length) (h:passW L N V=some V):∀ k,passS (gtS L) (gtS V) N k=gtS V k:=fun k=>by
 rw [← (passW_fn h hN).1]
theorem fix_ne {L V:List Sp} {N:Nat} (hN:N < V.length) (h:passW L N V=some V):∀ d,d < N→badW V d=false:=by
 intro d hd
 cases hp:passW L (d + 1) V with
 | none=>rw [passW_none hp N hd] at h; cases h
 | some V' =>
  obtain ⟨e,hl⟩:=passW_fn hp (by omega)
  have hV:V'=V:=list_ext hl fun k=>by
   rw [e]
   have h1:=passS_sub (gtS L) (gtS V) k 0 (d + 1)
   rw [Nat.zero_add] at h1
   have h2:=passS_sub (gtS L) (gtS V) k (d + 1) (N - (d + 1))
   rw [show d + 1 + (N - (d + 1))=N by omega,fix_at hN h] at h2
   exact subS.eq h1 h2
  simp only [passW] at hp
  cases hq:passW L d V with
  | none=>rw [hq] at hp; cases hp
  | some U =>
   rw [hq] at hp
   simp only at hp
   split at hp
   ·cases hp
   ·rename_i hb
    have:stepW L U d=V:=by rw [← hV]; exact Option.some.inj hp
    rw [this] at hb
    simpa using hb
structure GoodW (L:List Sp) (N:Nat) (V:List Sp):Prop where
 len:V.length=16
 tight:Tight N (gtS L) (gtS V)
 ne:∀ k,k≤N→(gtS V k).1≤(gtS V k).2
theorem FixW.good {L W V:List Sp} {N:Nat} (h:FixW L N W V) (hW:W.length=16) (hN:N < 16) (h0:0 < N):GoodW L N V:=by
 have hl:V.length=16:=by rw [h.len,hW]
 have hb:=fix_ne (by omega) h.fix
 refine ⟨hl,fix_tight fun k _=>fix_at (by omega) h.fix k,fun k hk=>?_⟩
 by_cases e:k < N
 ·have:=hb k e
  simp only [badW,empS,Bool.or_eq_false_iff,decide_eq_false_iff_not] at this
  omega
 ·have:=hb (N - 1) (by omega)
  rw [badW,show N - 1 + 1=N by omega] at this
  simp only [empS,Bool.or_eq_false_iff,decide_eq_false_iff_not] at this
  have e2:k=N:=by omega
  rw [e2]; omega
theorem GoodW.low {L V:List Sp} {N:Nat} (h:GoodW L N V) (hL:LosW L):∀ j,j≤N→(gtS V N).1≤(gtS V (N - j)).1∧(gtS V N).2≤(gtS V (N - j)).2
 | 0,_=>⟨Int.le_refl _,Int.le_refl _⟩
 | j + 1,hj=>by
  have ih:=h.low hL j (by omega)
  have ht:=h.tight (N - (j + 1)) (by omega)
  rw [show N - (j + 1) + 1=N - j by omega] at ht
  have hl:=hL (N - (j + 1))
  omega
theorem GoodW.ends {L V:List Sp} {N:Nat} (h:GoodW L N V) (hL:LosW L) {k:Nat} (hk:k≤N):(gtS V N).1≤(gtS V k).1∧(gtS V N).2≤(gtS V k).2:=by
 have:=h.low hL (N - k) (by omega)
 rwa [show N - (N - k)=k by omega] at this
theorem fold_hi:∀ (l:List CRead) (s:Sp),(foldR l s).2≤s.2
 | [],s=>Int.le_refl _
 | p::l,s=>by
  have h:=fold_hi l (bothS s (readS p))
  have:(bothS s (readS p)).2≤s.2:=by simp only [bothS]; omega
  exact Int.le_trans h this
structure WeiOk (L V W:List Sp):Prop where
 good:GoodW (losL L) (L.length + 1) V
 sol:∀ x,SolS (L.length + 1) (gtS (losL L)) (gtS V) x ↔ SolS (L.length + 1) (gtS (losL L)) (gtS W) x
 lo:1≤(gtS V (L.length + 1)).1
 hi:∀ k,k≤L.length + 1→(gtS V k).2≤1000000
theorem WeiOk.exact {L V W:List Sp} (h:WeiOk L V W):ExactS (L.length + 1) (gtS (losL L)) (gtS W) (gtS V):=⟨h.good.tight,h.good.ne,h.sol⟩
def iniW (b:CBox) (L:List Sp) (l:List CRead):List Sp:=mkW (iniF b L.length l (L.length + 1))
theorem weigh_ok {b:CBox} {L V:List Sp} {l:List CRead} (hb:boxB b=true) (hL:LosW (losL L)) (hlen:L.length≤14) (h:weighF b L l=some V):WeiOk L V (iniW b L l):=by
 have hW:(iniW b L l).length=16:=by simp [iniW]
 have hN:(losL L).length=L.length + 1:=by simp
 unfold weighF at h
 rw [hN] at h
 have hf:=nar_fix (f:=40) (i:=0) hL (by omega) (W:=iniW b L l) (by omega) (.inl rfl) (by omega) (by omega) h
 have hbx:=hb
 simp only [boxB,spanI,Bool.and_eq_true,decide_eq_true_eq] at hbx
 refine ⟨hf.good hW (by omega) (by omega),hf.sol,?_,fun k hk=>?_⟩
 ·have:=(hf.sub (L.length + 1)).1
  unfold iniW at this
  rw [mkW_at _ (by omega)] at this
  unfold iniF iniG at this
  rw [if_neg (by omega),if_pos rfl] at this
  simp only at this; omega
 ·have:=(hf.sub k).2
  unfold iniW at this
  rw [mkW_at _ (by omega)] at this
  have h2:(iniF b L.length l (L.length + 1) k).2≤(iniG b L.length k).2:=by
   unfold iniF; split
   ·exact fold_hi _ _
   ·exact Int.le_refl _
  have h3:(iniG b L.length k).2≤1000000:=by
   unfold iniG
   repeat' split
   all_goals simp only; omega
  omega
def dryW (L V:List Sp):List Sp:=V.set (L.length + 1) ((gtS V (L.length + 1)).2,(gtS V (L.length + 1)).2)
def dryF (L V:List Sp):Option (List Sp):=narW (losL L) (losL L).length 40 (dryW L V)
theorem dryW_fn {L V:List Sp} (h:L.length + 1 < V.length):gtS (dryW L V)=dryS (L.length + 1) (gtS V):=by
 funext k
 unfold dryW dryS updS
 rw [gtS_set _ h]
structure DryOk (L V D:List Sp):Prop where
 good:GoodW (losL L) (L.length + 1) D
 sol:∀ x,SolS (L.length + 1) (gtS (losL L)) (gtS D) x ↔ SolS (L.length + 1) (gtS (losL L)) (dryS (L.length + 1) (gtS V)) x
 lo:(gtS D (L.length + 1)).1=(gtS V (L.length + 1)).2
 hi:∀ k,k≤L.length + 1→(gtS D k).2≤1000000
theorem DryOk.exact {L V D:List Sp} (h:DryOk L V D):ExactS (L.length + 1) (gtS (losL L)) (dryS (L.length + 1) (gtS V)) (gtS D):=⟨h.good.tight,h.good.ne,h.sol⟩
theorem los_le {L:List Sp} (hL:LosW L) (N:Nat):∀ i,i < N→(gtS L i).1≤(gtS L i).2:=fun i _=>(hL i).2.1
theorem dry_ok {L V W:List Sp} (hL:LosW (losL L)) (hlen:L.length≤14) (h:WeiOk L V W):∃ D,dryF L V=some D∧DryOk L V D:=by
 have hV:=h.good.len
 have hN:(losL L).length=L.length + 1:=by simp
 have hW:(dryW L V).length=16:=by simp [dryW,hV]
 have efn:=dryW_fn (L:=L) (V:=V) (by omega)
 have hne:=h.good.ne (L.length + 1) (Nat.le_refl _)
 cases hd:dryF L V with
 | none =>
  exfalso
  unfold dryF at hd
  rw [hN] at hd
  obtain ⟨c1,c2⟩:=chainS_sol h.good.tight (los_le hL _) h.good.ne (Nat.le_refl (L.length + 1)) (v:=(gtS V (L.length + 1)).2) ⟨hne,Int.le_refl _⟩
  refine nar_none (by omega) hd (chainS (gtS (losL L)) (gtS V) (L.length + 1) (gtS V (L.length + 1)).2) ?_
  rw [efn]
  refine ⟨fun i hi=>?_,c1.2⟩
  unfold dryS updS
  by_cases e:i=L.length + 1
  ·rw [if_pos e,e,c2]; exact ⟨Int.le_refl _,Int.le_refl _⟩
  ·rw [if_neg e]; exact c1.1 i hi
 | some D =>
  refine ⟨D,rfl,?_⟩
  unfold dryF at hd
  rw [hN] at hd
  have hf:=nar_fix (f:=40) (i:=0) hL (by omega) (W:=dryW L V) (by omega) (.inl rfl) (by omega) (by omega) hd
  have hg:=hf.good hW (by omega) (by omega)
  refine ⟨hg,by rw [← efn]; exact hf.sol,?_,fun k hk=>?_⟩
  ·have h1:=hf.sub (L.length + 1)
   rw [efn] at h1
   unfold dryS updS subS at h1
   rw [if_pos rfl] at h1
   have h2:=hg.ne (L.length + 1) (Nat.le_refl _)
   simp only at h1
   omega
  ·have h1:=hf.sub k
   rw [efn] at h1
   unfold dryS updS subS at h1
   have h2:=h.hi k hk
   split at h1
   ·rename_i e
    rw [e] at h2 ⊢
    simp only at h1
    rw [e] at h1
    omega
   ·omega
def moL (L V D:List Sp):List Sp:=(List.range (L.length + 1)).map fun k=>(moI (gtS D k).1 (gtS V (L.length + 1)).2,moI (gtS V k).2 (gtS V (L.length + 1)).1)
@[simp] theorem moL_length (L V D:List Sp):(moL L V D).length=L.length + 1:=by simp [moL]
theorem moL_at {L V D:List Sp} {k:Nat} (h:k < L.length + 1):(moL L V D)[k]?=some (moI (gtS D k).1 (gtS V (L.length + 1)).2,moI (gtS V k).2 (gtS V (L.length + 1)).1):=by
 unfold moL
 rw [List.getElem?_map,List.getElem?_range h]; rfl
theorem mo_fits {L V W D:List Sp} (hL:LosW (losL L)) (h:WeiOk L V W) (hd:DryOk L V D) {k:Nat} (hk:k≤L.length + 1):(1≤(gtS V (L.length + 1)).2∧(gtS V (L.length + 1)).2≤(gtS D k).1∧(gtS D k).1≤1000000)∧(1≤(gtS V (L.length + 1)).1∧(gtS V (L.length + 1)).1≤(gtS V k).2∧(gtS V k).2≤1000000):=by
 have h1:=h.good.ne (L.length + 1) (Nat.le_refl _)
 have h2:=h.lo
 have h3:=h.good.ends hL hk
 have h4:=hd.good.ends hL hk
 have h5:=hd.lo
 have h6:=hd.good.ne k hk
 have h7:=hd.hi k hk
 have h8:=h.hi k hk
 omega
theorem row_one {W:List Sp} (h:W.length=16) {i:Nat} (hi:i < 16):(W.flatMap spC)[i * 2]?=some (.int .i64 (gtS W i).1)∧(W.flatMap spC)[i * 2 + 1]?=some (.int .i64 (gtS W i).2):=by
 obtain ⟨h1,_⟩:=row_ld h hi
 have e0:((W.flatMap spC).drop (i * 2)).take 2=[.int .i64 (gtS W i).1,.int .i64 (gtS W i).2]:=h1
 constructor
 ·have:=congrArg (fun l=>l[0]?) e0
  simp only [List.getElem?_take,List.getElem?_drop] at this
  simpa using this
 ·have:=congrArg (fun l=>l[1]?) e0
  simp only [List.getElem?_take,List.getElem?_drop] at this
  simpa using this
theorem row_drop {W:List Sp} (h:W.length=16) {i:Nat} (hi:i < 16):(W.flatMap spC).drop (i * 2 + 1)=.int .i64 (gtS W i).2::(W.flatMap spC).drop (i * 2 + 2):=by
 have hl:=row_len h
 have h1:=(row_one h hi).2
 have hlt:i * 2 + 1 < (W.flatMap spC).length:=by omega
 rw [List.drop_eq_getElem_cons hlt]
 rw [List.getElem?_eq_getElem hlt] at h1
 rw [Option.some.inj h1]
theorem row_st1 {W:List Sp} (h:W.length=16) {i:Nat} (hi:i < 16) (z:Int):(W.flatMap spC).take (i * 2)++.int .i64 z::(W.flatMap spC).drop (i * 2 + 1)=(W.set i (z,(gtS W i).2)).flatMap spC:=by
 rw [row_drop h hi]
 exact row_st h hi (z,(gtS W i).2)
theorem same_rowV (W:List Sp):sameVal 5 (.agg ⟨W.flatMap spC⟩) (.agg ⟨W.flatMap spC⟩)=true:=same_agg _ (by
 intro v hv
 obtain ⟨s,_,hs⟩:=List.mem_flatMap.1 hv
 simp only [spC,List.mem_cons,List.not_mem_nil,or_false] at hs
 rcases hs with rfl | rfl <;> exact sameN_int _ _ _)
theorem same_proc (b:CBox) (p:Option Addr) (n c:Nat):sameVal 5 (.agg ⟨procC b (.slice p n c)⟩) (.agg ⟨procC b (.slice p n c)⟩)=true:=same_agg _ (by
 intro v hv
 simp only [procC,List.mem_cons,List.not_mem_nil,or_false] at hv
 rcases hv with rfl | rfl | rfl | rfl | rfl
 ·exact sameN_int _ _ _
 ·exact sameN_int _ _ _
 ·exact sameN_int _ _ _
 ·exact sameN_int _ _ _
 ·exact sameN_slice _ _ _ _)
def S88:PSpec where
 R args w v:=∃ (b:CBox) (pv:Value) (L V D:List Sp),args=[.agg ⟨procC b pv⟩,.agg ⟨V.flatMap spC⟩]∧ProcV w pv L∧L.length≤14∧LosW (losL L)∧V.length=16∧BndW V∧dryF L V=some D∧w.lim≤w.next∧v=.agg ⟨D.flatMap spC⟩
 uniq:=by
  rintro _ _ _ _ ⟨⟨_,_,_,_⟩,pv,L,V,D,rfl,h1,_,_,h2,_,h3,_,rfl⟩ ⟨⟨_,_,_,_⟩,pv',L',V',D',h,k1,_,_,k2,_,k3,_,rfl⟩
  simp only [procC,List.cons.injEq,Value.agg.injEq,Array.mk.injEq,Value.int.injEq,true_and,and_true] at h
  obtain ⟨⟨rfl,rfl,rfl,rfl,rfl⟩,h4⟩:=h
  rw [row_inj h2 k2 h4,h1.rows.uniq (m:=2) spC_length spC_inj k1.rows,k3] at h3
  cases h3; rfl
 shut:=fun ⟨a1,a2,a3,a4,a5,h1,h2,h3,h4,h5,h6,h7,_,h8⟩=>⟨a1,a2,a3,a4,a5,h1,h2,h3,h4,h5,h6,h7,Nat.le_refl _,h8⟩
theorem dry_bnd {L V:List Sp} (h:BndW V) (hN:L.length + 1 < V.length):BndW (dryW L V):=fun k=>by
 unfold dryW
 rw [gtS_set _ hN]
 have h1:=h k; have h2:=h (L.length + 1)
 unfold bndS at *
 split
 ·simp only; omega
 ·exact h1
set_option maxHeartbeats 1000000 in
theorem run88 {ov:Ov} (ho:∀ args w,ov 88 args w=none) (h64:HasP ov 64 S64.F) (h104:HasP ov 104 S104.F) (b:CBox) (pv:Value) (L V D:List Sp) (hlen:L.length≤14) (hL:LosW (losL L)) (hV:V.length=16) (hVb:BndW V) (hD:dryF L V=some D) (w:AW) (hl:w.lim=w.next) (hpv:ProcV w pv L):∃ x w',(run Tryd.prog ov 2).call 88 [.agg ⟨procC b pv⟩,.agg ⟨V.flatMap spC⟩] w .none=.ok (.ret x) w' .none∧x=.agg ⟨D.flatMap spC⟩:=by
 refine call_wp text88 (by simp) (ho _ _) ?_
 obtain ⟨B,hpe,_,_⟩:=id hpv
 have r64:=fun w=>S64.call1 (P:=Tryd.prog) h64 (w:=w) ⟨b,some ⟨B,0,none⟩,L.length,L.length,rfl,by omega,rfl⟩
 have sp:=same_proc b (some ⟨B,0,none⟩) L.length L.length
 rw [← hpe] at r64 sp
 have hian:∀ w1,indexAddrA Tryd.prog w1 104 (.pointer (some ⟨w.next + 1,0,none⟩)) (.int .i64 ((L.length:Int) + 1))=.val (.pointer (some ((⟨w.next + 1,0,none⟩:Addr).add ((L.length + 1) * 2)))) w1:=fun w1=>by
  have:=ia104 w1 ⟨w.next + 1,0,none⟩ (L.length + 1) (by omega)
  rw [show ((L.length + 1:Nat):Int)=(L.length:Int) + 1 by omega] at this
  exact this
 have hcl:=row_len hV
 have h1:=(row_one hV (i:=L.length + 1) (by omega)).2
 have hs:=row_st1 hV (i:=L.length + 1) (by omega) (gtS V (L.length + 1)).2
 change _=(dryW L V).flatMap spC at hs
 have hW16:(dryW L V).length=16:=by simp [dryW,hV]
 have hcl':=row_len hW16
 have htk':((dryW L V).flatMap spC).take 32=(dryW L V).flatMap spC:=List.take_of_length_le (by omega)
 have hD16:D.length=16:=by
  have:=narW_length (by rw [hW16]; simp; omega) hD
  rw [this,hW16]
 have hDl:=row_len hD16
 have hDt:(D.flatMap spC).take 32=D.flatMap spC:=List.take_of_length_le (by omega)
 have hDs:=row_sing D
 obtain ⟨w1,hw1e⟩:∃ w1:AW,w1=⟨(((w.heap.put w.next (some (.cells (procC b pv) 97 false))).put (w.next + 1) (some (.cells (V.flatMap spC) 104 false))).put (w.next + 1 + 1) (some (.cells zerC 104 false))).put (w.next + 1) (some (.cells ((dryW L V).flatMap spC) 104 false)),w.next + 1 + 1 + 1,w.lim⟩:=⟨_,rfl⟩
 have u1:Up w w1:=by rw [hw1e]; exact ((((Up.refl w).add _).put (Nat.le_succ _) (Nat.le_succ _)).put (by show w.next≤w.next + 1 + 1; omega) (Nat.le_succ _)).put (by show w.next≤w.next + 1; omega) (Nat.le_refl _)
 have r104:=S104.call1 (P:=Tryd.prog) h104 (w:=w1) ⟨b,pv,L,dryW L V,rfl,hpv.up u1,hlen,hL,hW16,dry_bnd hVb (by omega),by rw [hw1e]; show w.lim≤w.next + 1 + 1 + 1; omega,rfl⟩
 change _=RO.ok (Out.ret (narR (dryF L V))) _ _ at r104
 rw [hD,hw1e] at r104
 simp only [narR,procC] at r104
 simp only [procC] at r64 sp ⊢
 have lw1:w.lim≤w.next + 1:=by omega
 have lw2:w.lim≤w.next + 1 + 1:=by omega
 have hz:zerC.length=32:=rfl
 have hzd:zerC.drop 32=[]:=rfl
 have q1:(L.length + 1) * 2 + 1≤32:=by omega
 generalize hcs:V.flatMap spC=cs at hcl h1 hs r104
 generalize hcs1:(dryW L V).flatMap spC=cs1 at hs hcl' htk' r104
 generalize hcs2:D.flatMap spC=cs2 at hDl hDt hDs r104
 simp [mc88,cellsOf_agg,ez,r64,sp,hian,hcl,h1,lw1,lw2,q1,hs,hcl',htk',r104,hDl,hDt,hDs,hz,hzd,tupV]
theorem partL_zero' (L:List Sp):partL L L.length 0=List.replicate L.length (0,0):=by simp [partL]
set_option maxHeartbeats 2000000 in
theorem call66 {ov:Ov} (m:Nat) (ho:∀ args w,ov 66 args w=none) (h64:HasP ov 64 S64.F) (h84:HasP ov 84 S84.F) (h88:HasP ov 88 S88.F) (b:CBox) (pv:Value) (L V W D:List Sp) (hlen:L.length≤14) (hL:LosW (losL L)) (hVb:BndW V) (hw:WeiOk L V W) (hD:dryF L V=some D) (hdo:DryOk L V D) (we:AW) (hlim:we.lim≤we.next) (hpv:ProcV we pv L) :
  ∃ v w',(run Tryd.prog ov (m + 2)).call 66 [.agg ⟨procC b pv⟩,.agg ⟨V.flatMap spC⟩] we .none=.ok (.ret v) w' .none∧ProcV w' v (moL L V D)∧Up we w':=by
 refine call_wp text66 (by simp) (ho _ _) ?_
 have hV:=hw.good.len
 have hD16:=hdo.good.len
 obtain ⟨B,hpe,_,_⟩:=id hpv
 have r64:=fun w=>S64.call (P:=Tryd.prog) h64 (m:=m) (w:=w) ⟨b,some ⟨B,0,none⟩,L.length,L.length,rfl,by omega,rfl⟩
 have sp:=same_proc b (some ⟨B,0,none⟩) L.length L.length
 rw [← hpe] at r64 sp
 have hian:∀ w1,indexAddrA Tryd.prog w1 104 (.pointer (some ⟨we.next + 1,0,none⟩)) (.int .i64 ((L.length:Int) + 1))=.val (.pointer (some ((⟨we.next + 1,0,none⟩:Addr).add ((L.length + 1) * 2)))) w1:=fun w1=>by
  have:=ia104 w1 ⟨we.next + 1,0,none⟩ (L.length + 1) (by omega)
  rw [show ((L.length + 1:Nat):Int)=(L.length:Int) + 1 by omega] at this
  exact this
 have hcl:=row_len hV
 have htk:(V.flatMap spC).take 32=V.flatMap spC:=List.take_of_length_le (by omega)
 have svr:=same_rowV V
 obtain ⟨tk,q⟩:=row_ld hV (i:=L.length + 1) (by omega)
 have hDl:=row_len hD16
 have hDs:=row_sing D
 have hml:(moL L V D).length=L.length + 1:=by simp
 obtain ⟨w1,hw1e⟩:∃ w1:AW,w1=⟨(((we.heap.put we.next (some (.cells (procC b pv) 97 false))).put (we.next + 1) (some (.cells (V.flatMap spC) 104 false))).put (we.next + 1 + 1) (some (.cells [.int .i64 0,.int .i64 0] 25 false))).put (we.next + 1 + 1 + 1) (some (.cells zerC 104 false)),we.next + 1 + 1 + 1 + 1,we.lim⟩:=⟨_,rfl⟩
 have u1:Up we w1:=by rw [hw1e]; exact ((((Up.refl we).add _).put (Nat.le_succ _) (Nat.le_succ _)).put (by show we.next≤we.next + 1 + 1; omega) (Nat.le_succ _)).put (by show we.next≤we.next + 1 + 1 + 1; omega) (Nat.le_succ _)
 have r88:=S88.call (P:=Tryd.prog) h88 (m:=m) (w:=w1) ⟨b,pv,L,V,D,rfl,hpv.up u1,hlen,hL,hV,hVb,hD,by rw [hw1e]; show we.lim≤we.next + 1 + 1 + 1 + 1; omega,rfl⟩
 rw [hw1e] at r88
 have lw2:we.lim≤we.next + 1 + 1:=by omega
 have lw3:we.lim≤we.next + 1 + 1 + 1:=by omega
 have hz:zerC.length=32:=rfl
 have hzd:zerC.drop 32=[]:=rfl
 have hmk:∀ w,makeSliceA Tryd.prog w 43 (.int .i64 ((L.length:Int) + 1)) (.int .i64 ((L.length:Int) + 1))=.val (.slice (some ⟨w.next,0,none⟩) (L.length + 1) (L.length + 1)) ⟨w.heap.put w.next (some (.cells ((partL (moL L V D) (moL L V D).length 0).flatMap spC) 25 false)),w.next + 1,w.lim⟩:=fun w=>by
  rw [partL_zero',hml]
  have:=mk43 (L.length + 1) (by omega) w
  rw [show ((L.length + 1:Nat):Int)=(L.length:Int) + 1 by omega] at this
  exact this
 simp only [procC] at r64 sp r88 ⊢
 generalize hcs:V.flatMap spC=cs at hcl htk svr tk r88
 generalize hcs2:D.flatMap spC=cs2 at hDl hDs r88
 simp [mc66,cellsOf_agg,ez,r64,sp,svr,hian,hcl,htk,tk,q,lw2,lw3,r88,hDl,hDs,hz,hzd,hmk]
 refine wp_seqX (wp_blockX (wp_rounds (fun i t w=>Up we w∧w.heap.get (we.next + 1)=some (.cells cs 104 false)∧w.heap.get (we.next + 1 + 1)=some (.cells [.int .i64 (gtS V (L.length + 1)).1,.int .i64 (gtS V (L.length + 1)).2] 25 false)∧w.heap.get (we.next + 1 + 1 + 1)=some (.cells cs2 104 false)∧w.heap.get (we.next + 1 + 1 + 1 + 1)=some (.cells ((partL (moL L V D) (moL L V D).length i).flatMap spC) 25 false)∧we.next + 5≤w.next∧tget t 3=.pointer (some ⟨we.next + 1,0,none⟩)∧tget t 5=.pointer (some ⟨we.next + 1 + 1,0,none⟩)∧tget t 6=.pointer (some ⟨we.next + 1 + 1 + 1,0,none⟩)∧tget t 7=.slice (some ⟨we.next + 1 + 1 + 1 + 1,0,none⟩) (L.length + 1) (L.length + 1)∧tget t 20=.int .i64 ((L.length:Int) + 1)∧tget t 21=.int .i64 (i:Nat)∧i≤L.length + 1) 20 (by decide) ?_ ?_))
 ·refine ⟨?_,?_,?_,?_,?_,?_,?_,?_,?_,?_,?_,?_,Nat.zero_le _⟩
  ·refine ⟨fun x hx=>?_,by show we.next≤we.next + 1 + 1 + 1 + 1 + 1; omega,rfl⟩
   show (((((((we.heap.put _ _).put _ _).put _ _).put _ _).put _ _).put _ _).put _ _).get x=_
   rw [get_put,if_neg (by omega),get_put,if_neg (by omega),get_put,if_neg (by omega),get_put,if_neg (by omega),get_put,if_neg (by omega),get_put,if_neg (by omega),get_put,if_neg (by omega)]
  ·simp
  ·simp
  ·simp
  ·simp
  ·show we.next + 5≤we.next + 1 + 1 + 1 + 1 + 1; omega
  all_goals simp
 ·rintro i t w ⟨hup,g3,g5,g6,g7,hnx,t3,t5,t6,t7,t20,t21,hi⟩
  have hlm:w.lim=we.lim:=hup.lim
  by_cases hlt:i < L.length + 1
  ·have hlt':(i:Int) < (L.length:Int) + 1:=by omega
   obtain ⟨f1,f2⟩:=mo_fits hL hw hdo (k:=i) (by omega)
   have r84a:=fun w=>S61.call (P:=Tryd.prog) h84 (m:=m) (w:=w) ⟨(gtS D i).1,(gtS V (L.length + 1)).2,rfl,f1,rfl⟩
   have r84b:=fun w=>S61.call (P:=Tryd.prog) h84 (m:=m) (w:=w) ⟨(gtS V i).2,(gtS V (L.length + 1)).1,rfl,f2,rfl⟩
   have hia3:=fun w1=>ia104 w1 ⟨we.next + 1,0,none⟩ i (by omega)
   have hia6:=fun w1=>ia104 w1 ⟨we.next + 1 + 1 + 1,0,none⟩ i (by omega)
   have hia7:=fun w1=>ia43 w1 ⟨we.next + 1 + 1 + 1 + 1,0,none⟩ (L.length + 1) (L.length + 1) .i64 i hlt
   have o3:=(row_one hV (i:=i) (by omega)).2
   have o6:=(row_one hD16 (i:=i) (by omega)).1
   rw [hcs] at o3
   rw [hcs2] at o6
   have hwi:IntKind.wrap .i64 ((i:Int) + 1)=(i:Int) + 1:=wrap64_in (by omega) (by omega)
   have hmx:=moL_at (L:=L) (V:=V) (D:=D) (k:=i) (by omega)
   have hps:=part_set hmx
   have hfs:=flat_set spC_length (partL (moL L V D) (moL L V D).length i) i (moI (gtS D i).1 (gtS V (L.length + 1)).2,moI (gtS V i).2 (gtS V (L.length + 1)).1) (by rw [part_length (by omega)]; omega)
   rw [hps] at hfs
   have hfl:((partL (moL L V D) (moL L V D).length i).flatMap spC).length=(L.length + 1) * 2:=by rw [flat_length spC_length,part_length (by omega),hml]
   generalize (partL (moL L V D) (moL L V D).length i).flatMap spC=cc at g7 hfs hfl
   simp only [spC,List.cons_append,List.nil_append] at hfs
   have lw:w.lim≤we.next + 1 + 1 + 1 + 1:=by omega
   have q3:i * 2 + 2≤(L.length + 1) * 2:=by omega
   simp [mc66_l0,t3,t5,t6,t7,t20,t21,hlt',hia3,hia6,hia7,g3,g5,g6,g7,o3,o6,r84a,r84b,hfl,q3,lw,hfs,hwi]
   exact ⟨by omega,hup.put (by omega) (Nat.le_refl _),hnx,by omega⟩
  ·have hil:i=L.length + 1:=by omega
   subst hil
   rw [← hml,part_full] at g7
   have nj:notJunk (.slice (some ⟨we.next + 1 + 1 + 1 + 1,0,none⟩) (L.length + 1) (L.length + 1))=some (.slice (some ⟨we.next + 1 + 1 + 1 + 1,0,none⟩) (L.length + 1) (L.length + 1)):=rfl
   simp [mc66_l0,t7,t20,t21,nj,tupV]
   exact ⟨⟨_,by rw [hml],g7,by omega⟩,hup⟩
def lastM (L V D:List Sp):Sp:=(moI (gtS D L.length).1 (gtS V (L.length + 1)).2,moI (gtS V L.length).2 (gtS V (L.length + 1)).1)
def surB (b:CBox) (L:List Sp) (lim:Sp):Bool:=match weighF b L [] with
 | none=>false
 | some V=>match dryF L V with
  | none=>false
  | some D=>decide (lim.1≤(lastM L V D).1) && decide ((lastM L V D).2≤lim.2)
def S71:PSpec where
 R args w v:=∃ (b:CBox) (pv:Value) (L:List Sp) (lim:Sp),args=[.agg ⟨procC b pv⟩,.agg ⟨spC lim⟩]∧ProcV w pv L∧L.length≤14∧LosW (losL L)∧boxB b=true∧LimW w∧w.lim≤w.next∧v=.bool (surB b L lim)
 uniq:=by
  rintro _ _ _ _ ⟨⟨_,_,_,_⟩,pv,L,⟨_,_⟩,rfl,h1,_,_,_,_,_,rfl⟩ ⟨⟨_,_,_,_⟩,pv',L',⟨_,_⟩,h,k1,_,_,_,_,_,rfl⟩
  simp only [procC,spC,List.cons.injEq,Value.agg.injEq,Array.mk.injEq,Value.int.injEq,true_and,and_true] at h
  obtain ⟨⟨rfl,rfl,rfl,rfl,rfl⟩,rfl,rfl⟩:=h
  rw [h1.rows.uniq (m:=2) spC_length spC_inj k1.rows]
 shut:=fun ⟨a1,a2,a3,a4,h1,h2,h3,h4,h5,h6,_,h7⟩=>⟨a1,a2,a3,a4,h1,h2,h3,h4,h5,h6,Nat.le_refl _,h7⟩
theorem weigh_bnd {b:CBox} {L V:List Sp} {l:List CRead} (hb:boxB b=true) (hL:LosW (losL L)) (hR:ReadOk l) (hlen:L.length≤14) (h:weighF b L l=some V):BndW V:=by
 have hW:(iniW b L l).length=16:=by simp [iniW]
 have hN:(losL L).length=L.length + 1:=by simp
 have hwb:BndW (iniW b L l):=mkW_bnd fun k=>iniF_bnd hb hR _ _ k
 unfold weighF at h
 rw [hN] at h
 -- each pass keeps bounds
 have key:∀ (f:Nat) (W U:List Sp),W.length=16→BndW W→narW (losL L) (L.length + 1) f W=some U→BndW U:=by
  intro f
  induction f with
  | zero=>intro W U _ hw h; cases h; exact hw
  | succ f ih =>
   intro W U hl hw h
   simp only [narW] at h
   cases hp:passW (losL L) (L.length + 1) W with
   | none=>rw [hp] at h; cases h
   | some V' =>
    rw [hp] at h
    have h1:=pass_bnd hw hL hp (by omega)
    have h2:=(passW_fn hp (by omega)).2
    simp only at h
    split at h
    ·cases h; exact h1
    ·exact ih V' U (by omega) h1 h
 exact key 40 _ V hW hwb h
theorem run71 {ov:Ov} (ho:∀ args w,ov 71 args w=none) (ho66:∀ args w,ov 66 args w=none) (h64:HasP ov 64 S64.F) (h84:HasP ov 84 S84.F) (h86:HasP ov 86 S86.F) (h88:HasP ov 88 S88.F) (h93:HasP ov 93 S93.F) (b:CBox) (hb:boxB b=true) (pv:Value) (L:List Sp) (lim:Sp) (hlen:L.length≤14) (hL:LosW (losL L)) (w:AW) (hl:w.lim=w.next) (hLim:LimW w) (hpv:ProcV w pv L):∃ x w',(run Tryd.prog ov 4).call 71 [.agg ⟨procC b pv⟩,.agg ⟨spC lim⟩] w .none=.ok (.ret x) w' .none∧x=.bool (surB b L lim):=by
 refine call_wp text71 (by simp) (ho _ _) ?_
 obtain ⟨w1,hw1e⟩:∃ w1:AW,w1=⟨(w.heap.put w.next (some (.cells (procC b pv) 97 false))).put (w.next + 1) (some (.cells [.int .i64 lim.1,.int .i64 lim.2] 25 false)),w.next + 1 + 1,w.lim⟩:=⟨_,rfl⟩
 have u1:Up w w1:=by rw [hw1e]; exact ((Up.refl w).add _).put (Nat.le_succ _) (Nat.le_succ _)
 have n1:w1.next=w.next + 1 + 1:=by rw [hw1e]
 have l1:w1.lim=w.lim:=u1.lim
 have r86:=S86.call (P:=Tryd.prog) h86 (m:=2) (w:=w1) ⟨b,pv,.slice none 0 0,L,[],rfl,hpv.up u1,hlen,hL,hb,.inl ⟨rfl,_,_,rfl⟩,by simp,fun p hp=>by simp at hp,hLim.up u1,by omega,rfl⟩
 have r93:=fun a b c d w=>S93.call (P:=Tryd.prog) h93 (m:=2) (w:=w) ⟨a,b,c,d,rfl,rfl⟩
 have lw:w.lim≤w.next + 1 + 1:=by omega
 have hz:zerC.length=32:=rfl
 have hzd:zerC.drop 32=[]:=rfl
 have hzs:singles zerC=true:=rfl
 rw [hw1e] at r86
 simp only [spC] at ⊢
 cases hN:weighF b L [] with
 | none =>
  have e:surB b L lim=false:=by unfold surB; rw [hN]
  rw [hN] at r86
  simp only [narR,procC] at r86 ⊢
  simp only [Nat.reduceAdd] at r86
  simp [mc71,cellsOf_agg,ez,r86,lw,hz,hzd,hzs,e,tupV]
 | some V =>
  have hok:=weigh_ok hb hL hlen hN
  obtain ⟨D,hD,hdo⟩:=dry_ok hL hlen hok
  have e:surB b L lim=(decide (lim.1≤(lastM L V D).1) && decide ((lastM L V D).2≤lim.2)):=by unfold surB; rw [hN]; simp only; rw [hD]
  have hV:=hok.good.len
  have hVl:=row_len hV
  have hVt:(V.flatMap spC).take 32=V.flatMap spC:=List.take_of_length_le (by omega)
  have hVs:=row_sing V
  have hVb:=weigh_bnd hb hL (fun p hp=>by simp at hp) hlen hN
  obtain ⟨w2,hw2e⟩:∃ w2:AW,w2=⟨(w1.heap.put w1.next (some (.cells zerC 104 false))).put w1.next (some (.cells (V.flatMap spC) 104 false)),w1.next + 1,w1.lim⟩:=⟨_,rfl⟩
  have u2:Up w1 w2:=by rw [hw2e]; exact ((Up.refl w1).add _).put (Nat.le_refl _) (Nat.le_refl _)
  have n2:w2.next=w.next + 1 + 1 + 1:=by rw [hw2e,← n1]
  obtain ⟨v66,w3,c66,⟨B3,hv3,hB3,hb3⟩,u3⟩:=call66 (ov:=ov) 1 ho66 h64 h84 h88 b pv L V (iniW b L []) D hlen hL hVb hok hD hdo w2 (by have:=u2.lim; omega) (hpv.up (u1.trans u2))
  have gl3:w3.heap.get (w.next + 1)=some (.cells [.int .i64 lim.1,.int .i64 lim.2] 25 false):=by
   rw [u3.at (by omega),u2.at (by omega),hw1e]; simp
  have hml:(moL L V D).length=L.length + 1:=by simp
  have hraM:RowsA spC w3.heap w3.next B3 0 (moL L V D):=⟨⟨[],[],25,false,by simpa using hB3,rfl⟩,hb3⟩
  have fM:=hraM.rd spC_length (moL_at (L:=L) (V:=V) (D:=D) (k:=L.length) (by omega))
  rw [Nat.zero_add] at fM
  have hiM:=fun w=>ia43 w ⟨B3,0,none⟩ (L.length + 1) (L.length + 1) .i64 L.length (by omega)
  have hwn:IntKind.wrap .i64 (((L.length + 1:Nat):Int) - 1)=(L.length:Int):=by rw [wrap64_in (by omega) (by omega)]; omega
  have hwn':IntKind.wrap .i64 (L.length:Int)=(L.length:Int):=wrap64_in (by omega) (by omega)
  rw [hml] at hv3
  rw [hN] at r86
  rw [hv3,hw2e,hw1e] at c66
  simp only [narR,procC] at r86 c66 ⊢
  simp only [Nat.reduceAdd] at r86 c66
  simp only [spC] at fM
  rw [e]
  unfold lastM
  generalize V.flatMap spC=cs at r86 c66 hVl hVt hVs
  by_cases k1:lim.1≤moI (gtS D L.length).1 (gtS V (L.length + 1)).2
  ·simp [mc71,cellsOf_agg,ez,r86,lw,hz,hzd,hVl,hVt,hVs,c66,gl3,hiM,fM,hwn,hwn',r93,k1,tupV]
  ·simp [mc71,cellsOf_agg,ez,r86,lw,hz,hzd,hVl,hVt,hVs,c66,gl3,hiM,fM,hwn,hwn',r93,k1,tupV]
theorem gtS_map {α:Type} (f:α→Sp) (l:List α) (k:Nat):gtS (l.map f) k=match l[k]? with | some a=>f a | none=>(0,0):=by
 unfold gtS
 rw [List.getD_eq_getElem?_getD,List.getElem?_map]
 cases l[k]? <;> rfl
theorem los_ok {r:List CAct} {d:List CDay} {b:CBox} {acts:List Int} (h:actE r d b acts=0):LosW (losL (lossL r acts)):=by
 obtain ⟨hR,hD,hB,s,hs⟩:=act_ofE h
 have ha:=stg_acts _ _ _ hs
 intro k
 by_cases h1:k < (lossL r acts).length
 ·have e:gtS (losL (lossL r acts)) k=gtS (lossL r acts) k:=by
   unfold gtS losL
   rw [List.getD_eq_getElem?_getD,List.getD_eq_getElem?_getD,List.getElem?_append_left h1]
  rw [e]
  unfold lossL
  rw [gtS_map]
  cases hk:acts[k]? with
  | none=>simp
  | some a =>
   obtain ⟨_,x,hx⟩:=ha a (List.mem_of_getElem? hk)
   simp only [hx]
   obtain ⟨_,_,q,_⟩:=act_of hR hx
   simp only [spanI,Bool.and_eq_true,decide_eq_true_eq] at q
   omega
 ·by_cases h2:k=(lossL r acts).length
  ·have e:gtS (losL (lossL r acts)) k=(0,1000000):=by
    refine gtS_of ?_
    unfold losL
    rw [h2,List.getElem?_append_right (Nat.le_refl _)]; simp
   rw [e]; simp
  ·have e:gtS (losL (lossL r acts)) k=(0,0):=by
    unfold gtS
    rw [List.getD_eq_getElem?_getD,List.getElem?_eq_none (by simp; omega)]; rfl
   rw [e]; simp
def reachR (r:List CAct) (d:List CDay) (b:CBox) (acts:List Int) (lim:Sp):Value:=if actE r d b acts=0 then (if spanI lim.1 lim.2 0 1000=true then .tuple ⟨[.bool (surB b (lossL r acts) lim),.int .i64 0]⟩ else .tuple ⟨[.bool false,.int .i64 7]⟩) else .tuple ⟨[.bool false,.int .i64 (actE r d b acts)]⟩
def S29:PSpec where
 R args w v:=∃ (rv dv av:Value) (r:List CAct) (d:List CDay) (b:CBox) (acts:List Int) (lim:Sp),args=[rv,dv,.agg ⟨boxC b⟩,av,.agg ⟨spC lim⟩]∧RowsV actC w rv r∧RowsV cdayC w dv d∧RowsV intC w av acts∧LimW w∧w.lim≤w.next∧v=reachR r d b acts lim
 uniq:=by
  rintro _ _ _ _ ⟨_,_,_,r,d,⟨_,_,_,_⟩,acts,⟨_,_⟩,rfl,h1,h2,h3,_,_,rfl⟩ ⟨_,_,_,r',d',⟨_,_,_,_⟩,acts',⟨_,_⟩,h,k1,k2,k3,_,_,rfl⟩
  cases h
  rw [h1.uniq (m:=7) actC_length actC_inj k1,h2.uniq (m:=3) cdayC_length cdayC_inj k2,h3.uniq (m:=1) intC_length intC_inj k3]
 shut:=fun ⟨a1,a2,a3,a4,a5,a6,a7,a8,h1,h2,h3,h4,h5,_,h6⟩=>⟨a1,a2,a3,a4,a5,a6,a7,a8,h1,h2,h3,h4,h5,Nat.le_refl _,h6⟩
theorem run29 {ov:Ov} (ho:∀ args w,ov 29 args w=none) (ho57:∀ args w,ov 57 args w=none) (h56:HasP ov 56 S56.F) (h70:HasP ov 70 S70.F) (h71:HasP ov 71 S71.F) (r:List CAct) (d:List CDay) (b:CBox) (acts:List Int) (lim:Sp) (rv dv av:Value) (w:AW) (hl:w.lim=w.next) (hL:LimW w) (hrv:RowsV actC w rv r) (hdv:RowsV cdayC w dv d) (hav:RowsV intC w av acts):∃ x w',(run Tryd.prog ov 3).call 29 [rv,dv,.agg ⟨boxC b⟩,av,.agg ⟨spC lim⟩] w .none=.ok (.ret x) w' .none∧x=reachR r d b acts lim:=by
 refine call_wp text29 (by simp) (ho _ _) ?_
 obtain ⟨w1,hw1e⟩:∃ w1:AW,w1=⟨(w.heap.put w.next (some (.cells [.int .i64 b.wl,.int .i64 b.wh,.int .i64 b.sl,.int .i64 b.sh] 27 false))).put (w.next + 1) (some (.cells [.int .i64 lim.1,.int .i64 lim.2] 25 false)),w.next + 1 + 1,w.lim⟩:=⟨_,rfl⟩
 have u1:Up w w1:=by rw [hw1e]; exact ((Up.refl w).add _).put (Nat.le_succ _) (Nat.le_succ _)
 have n1:w1.next=w.next + 1 + 1:=by rw [hw1e]
 have l1:w1.lim=w.lim:=u1.lim
 have g9:w1.heap.get (w.next + 1)=some (.cells [.int .i64 lim.1,.int .i64 lim.2] 25 false):=by rw [hw1e]; simp
 have r56:=S56.call (P:=Tryd.prog) h56 (m:=1) ⟨rv,dv,av,r,d,b,acts,rfl,hrv.up u1,hdv.up u1,hav.up u1,hL.up u1,by omega,rfl⟩
 have r70:=S70.call (P:=Tryd.prog) h70 (m:=1) (w:=w1) ⟨6,lim.1,lim.2,(0,1000),rfl,rfl,hL.up u1,rfl⟩
 rw [hw1e] at r56 r70
 simp only [boxC,spC,Nat.reduceAdd] at r56 r70 ⊢
 by_cases hA:actE r d b acts=0
 ·rw [hA] at r56
  cases hS:spanI lim.1 lim.2 0 1000 with
  | false =>
   rw [hS] at r70
   simp [mc29,cellsOf_agg,r56,r70,reachR,hA,hS,tupV]
  | true =>
   rw [hS] at r70
   obtain ⟨hT,h14,hact⟩:=tru_ok hA
   have hLl:(lossL r acts).length=acts.length:=by simp [lossL]
   obtain ⟨_,w2,c57,pv,rfl,hproc,u2⟩:=call57 (ov:=ov) 1 ho57 r acts hact h14 b rv av w1 (by omega) (hrv.up u1) (hav.up u1)
   have g92:w2.heap.get (w.next + 1)=some (.cells [.int .i64 lim.1,.int .i64 lim.2] 25 false):=by rw [u2.at (by omega)]; exact g9
   have r71:=S71.call (P:=Tryd.prog) h71 (m:=1) (w:=w2) ⟨b,pv,lossL r acts,lim,rfl,hproc,by omega,los_ok hA,hT.box,(hL.up u1).up u2,by have:=u2.lim; have:=u2.next; omega,rfl⟩
   rw [hw1e] at c57
   simp only [boxC,spC,procC,Nat.reduceAdd] at c57 r71
   simp [mc29,cellsOf_agg,r56,r70,c57,g92,r71,reachR,hA,hS,tupV]
 ·simp [mc29,cellsOf_agg,r56,reachR,hA,tupV]
def wrapI (n s:Int):Int:=if s < 1 then 0 else (n.tmod s + s).tmod s
theorem wrapI_bd {n s:Int} (h:1≤s):0≤wrapI n s∧wrapI n s < s:=by
 have h2:=Int.lt_tmod_of_pos n (show 0 < s by omega)
 unfold wrapI
 rw [if_neg (by omega)]
 exact ⟨Int.tmod_nonneg _ (by omega),Int.tmod_lt_of_pos _ (by omega)⟩
def nthI (L:List Int) (i:Int):Int:=match L[(wrapI i L.length).toNat]? with | some z=>z | none=>0
def S37:PSpec where
 R args w v:=∃ (lv:Value) (L:List Int) (i:Int),args=[lv,.int .i64 i]∧RowsV intC w lv L∧L.length≤2 ^ 60∧v=.int .i64 (nthI L i)
 uniq:=by
  rintro _ _ _ _ ⟨_,L,i,rfl,h1,_,rfl⟩ ⟨_,L',i',h,k1,_,rfl⟩
  cases h
  rw [h1.uniq (m:=1) intC_length intC_inj k1]
 shut h:=h
def withI (lo hi n:Int):Int:=lo + wrapI n (hi - lo + 1)
theorem with_in {lo hi n:Int} (h:lo≤hi):lo≤withI lo hi n∧withI lo hi n≤hi:=by
 obtain ⟨a,b⟩:=wrapI_bd (n:=n) (s:=hi - lo + 1) (by omega)
 unfold withI
 omega
def sndB (r:List CAct) (d:List CDay) (acts:List Int):Bool:=decide (chkE r d=0) && canB r d acts
def S33:PSpec where
 R args w v:=∃ (rv dv av:Value) (r:List CAct) (d:List CDay) (b:CBox) (acts:List Int),args=[.agg ⟨curC rv dv b av⟩]∧RowsV actC w rv r∧RowsV cdayC w dv d∧RowsV intC w av acts∧LimW w∧v=.bool (sndB r d acts)
 uniq:=by
  rintro _ _ _ _ ⟨_,_,_,r,d,⟨_,_,_,_⟩,acts,rfl,h1,h2,h3,_,rfl⟩ ⟨_,_,_,r',d',⟨_,_,_,_⟩,acts',h,k1,k2,k3,_,rfl⟩
  simp only [curC,List.cons.injEq,Value.agg.injEq,Array.mk.injEq,Value.int.injEq,true_and,and_true] at h
  obtain ⟨rfl,rfl,rfl,rfl,rfl,rfl,rfl⟩:=h
  rw [h1.uniq (m:=7) actC_length actC_inj k1,h2.uniq (m:=3) cdayC_length cdayC_inj k2,h3.uniq (m:=1) intC_length intC_inj k3]
 shut h:=h
theorem run33 {ov:Ov} (ho:∀ args w,ov 33 args w=none) (h12:HasP ov 12 S12.F) (h39:HasP ov 39 S39.F) (r:List CAct) (d:List CDay) (b:CBox) (acts:List Int) (rv dv av:Value) (w:AW) (hL:LimW w) (hrv:RowsV actC w rv r) (hdv:RowsV cdayC w dv d) (hav:RowsV intC w av acts):∃ x w',(run Tryd.prog ov 2).call 33 [.agg ⟨curC rv dv b av⟩] w .none=.ok (.ret x) w' .none∧x=.bool (sndB r d acts):=by
 refine call_wp text33 (by simp) (ho _ _) ?_
 obtain ⟨w1,hw1e⟩:∃ w1:AW,w1=⟨w.heap.put w.next (some (.cells [rv,dv,.int .i64 b.wl,.int .i64 b.wh,.int .i64 b.sl,.int .i64 b.sh,av] 30 false)),w.next + 1,w.lim⟩:=⟨_,rfl⟩
 have u1:Up w w1:=by rw [hw1e]; exact (Up.refl w).add _
 have g1:w1.heap.get w.next=some (.cells [rv,dv,.int .i64 b.wl,.int .i64 b.wh,.int .i64 b.sl,.int .i64 b.sh,av] 30 false):=by rw [hw1e]; simp
 have r12:=S12.call1 (P:=Tryd.prog) h12 ⟨rv,dv,av,r,d,acts,rfl,hrv.up u1,hdv.up u1,hav.up u1,hL.up u1,rfl⟩
 have r39:=fun n a b w=>S39.call1 (P:=Tryd.prog) h39 (w:=w) ⟨n,a,b,rfl,rfl⟩
 have hl1:=fun w2=>len22V (w':=w2) hrv
 have hl2:=fun w2=>len23V (w':=w2) hdv
 have hl3:=fun w2=>len28V (w':=w2) hav
 rw [hw1e] at r12
 simp only [curC]
 by_cases hE:chkE r d=0
 ·obtain ⟨hR,hD⟩:=chk_of hE
  have e0:canR r d acts=.tuple ⟨[.bool (canB r d acts),.int .i64 0]⟩:=by unfold canR; rw [if_pos hE]
  rw [e0] at r12
  cases hc:canB r d acts with
  | false =>
   have e:sndB r d acts=false:=by unfold sndB; rw [hc,Bool.and_false]
   rw [hc] at r12
   simp [mc33,cellsOf_agg,r12]
   refine wp_seqX (wp_blockX (wp_rounds (fun i t w'=>i=0∧tget t 5=.bool false) 20 (by decide) ⟨rfl,by simp⟩ ?_))
   rintro i t w' ⟨rfl,t5⟩
   simp [mc33_l0,t5,e,tupV]
  | true =>
   have e:sndB r d acts=true:=by unfold sndB; rw [hc,decide_eq_true hE]; rfl
   have hlr:=rule_len hR
   have hld:=days_len hD
   obtain ⟨s,hs⟩:∃ s,stgF r d startS acts=some s:=by
    unfold canB at hc
    cases hq:stgF r d startS acts with
    | none=>rw [hq] at hc; cases hc
    | some s=>exact ⟨s,rfl⟩
   have hal:=stg_len hR hs
   have hact:=stg_acts _ _ _ hs
   rw [hc] at r12
   have k1:(r.length:Int)≤5:=by omega
   have k2:(d.length:Int)≤14:=by omega
   have k3:(acts.length:Int)≤d.length:=by omega
   have k1':r.length≤5:=by omega
   have k2':d.length≤14:=by omega
   simp [mc33,cellsOf_agg,r12,hl1,hl2,hl3,k1,k2,k3,k1',k2',hal]
   rw [← hw1e]
   refine wp_seqX (wp_blockX (wp_rounds (fun i t w'=>w'=w1∧tget t 1=.pointer (some ⟨w.next,0,none⟩)∧tget t 5=.bool true∧tget t 6=.int .i64 (i:Nat)∧i≤acts.length) 20 (by decide) ⟨rfl,by simp,by simp,by simp,Nat.zero_le _⟩ ?_))
   rintro i t w' ⟨rfl,t1,t5,t6,hi⟩
   by_cases hlt:i < acts.length
   ·obtain ⟨a,ha⟩:∃ p,acts[i]?=some p:=⟨_,List.getElem?_eq_getElem hlt⟩
    obtain ⟨ha0,x,hx⟩:=hact a (List.mem_of_getElem? ha)
    have hal2:=(List.getElem?_eq_some_iff.1 hx).1
    obtain ⟨bb,off,sq,c,rfl,hra⟩:=hav.at_ i hlt
    have hldd:=hra.int ha
    rw [← u1.at hra.2] at hldd
    have hia:=fun w=>ia28 w ⟨bb,off,sq⟩ acts.length c .i64 i hlt
    simp only [Nat.mul_one] at hia
    have hwi:IntKind.wrap .i64 ((i:Int) + 1)=(i:Int) + 1:=wrap64_in (by omega) (by omega)
    have hwr:IntKind.wrap .i64 ((r.length:Int) - 1)=(r.length:Int) - 1:=wrap64_in (by omega) (by omega)
    have hin:inI 0 a ((r.length:Int) - 1)=true:=by simp [inI]; omega
    simp [mc33_l0,t1,t5,t6,hlt,g1,hia,hldd,hl1,hwr,r39,hin,hwi]
    exact ⟨by omega,hlt⟩
   ·have hi':i=acts.length:=by omega
    subst hi'
    simp [mc33_l0,t1,t5,t6,g1,hl3,e,tupV]
 ·have e0:canR r d acts=.tuple ⟨[.bool false,.int .i64 (chkE r d)]⟩:=by unfold canR; rw [if_neg hE]
  have e:sndB r d acts=false:=by unfold sndB; rw [decide_eq_false hE]; rfl
  rw [e0] at r12
  simp [mc33,cellsOf_agg,r12,hE]
  refine wp_seqX (wp_blockX (wp_rounds (fun i t w'=>i=0∧tget t 5=.bool false) 20 (by decide) ⟨rfl,by simp⟩ ?_))
  rintro i t w' ⟨rfl,t5⟩
  simp [mc33_l0,t5,e,tupV]
end Go.Proofs.YtnmamelclmfplaaDoor.walk
