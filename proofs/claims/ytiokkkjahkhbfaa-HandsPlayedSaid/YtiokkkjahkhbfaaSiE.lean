/- Part of a proof: see the text with the theorem. -/
import Derived.Test.YtiokkkjahkhbfaaSiD
import Derived.Lib.LaidTab
import Derived.ChangeSame
set_option linter.all false
namespace Go.Sh
open Go
variable {P:Program} {φ:Inj} {A:AW} {w:World}
theorem not_defer {o:Oper} {t:Tm} {y:R} (h:(opS P o.type o.op).val t A=y) (h1:y ≠ .fail) (h2:∀ d B,y ≠ .defer d B):∀ c,o.op ≠ .defer c:=by
 intro c hc
 rw [hc] at h
 have h:(deferS c).val t A=y:=h
 unfold deferS at h
 split at h
 ·have h:deferV A _ _=y:=h
  unfold deferV at h
  split at h
  ·exact h2 _ _ h.symm
  ·exact h1 h.symm
 ·exact h1 h.symm
theorem val_steps (hP:NoCount P) (hM:MR P φ A w) {n:Nat} {t:Tm} {a:Av} (hT:TR φ n t a.tmps) {ops:Array Oper} {i:Nat} {rest:List Nat} {k:List Item} {cs:List Frame} {o:Oper} (ho:ops[i]?=some o)
  (hc:∀ y ∈ o.op.operands.toList,constOk P y=true) (hw:Region.wanted o (yielded ops a.tmps)=true) {v:Value} {A':AW} (hv:(opS P o.type o.op).val t A=.val v A') :
  ∃ φ1 w1 v',MR P φ1 A' w1∧Ext φ A w φ1 A' w1∧VR φ1 v v'∧Steps P (lone (a.at (.inRegion ops (i::rest)::k)) cs w) (lone ((a.put o.dst v').at (.inRegion ops rest::k)) cs w1):=by
 have hop:=op_ok hP hM (fr:=a.at (.inRegion ops (i::rest)::k)) hT o hc
 have hg:=stepG_oper (P:=P) (w:=w) (k:=k) (cs:=cs) (rest:=rest) ho hw (.inr (not_defer hv (fun h=>by cases h) (fun d B h=>by cases h)))
 rw [hv] at hop
 obtain ⟨φ1,w1,h1,h2,h3⟩:=hop
 rcases h3 with ⟨v',h3,h4⟩ | ⟨h3,rfl⟩
 ·exact ⟨φ1,w1,v',h1,h2,h4,go1 (by rw [hg,← finish_at ho]; simp [stepG.apply,h3])⟩
 ·exact ⟨φ1,w1,undef,h1,h2,undef_VR,go1 (by rw [hg,← finish_at ho]; simp [stepG.apply,h3])⟩
theorem new_steps {ops:Array Oper} {a:Av} {i:Nat} {rest:List Nat} {k:List Item} {cs:List Frame} {o:Oper} (ho:ops[i]?=some o) (hw:Region.wanted o (yielded ops a.tmps)=true) (hk:∀ c,o.op ≠ .defer c)
  {oc:Obj} {v':Value} (hr:(execOp (a.at (.inRegion ops (i::rest)::k)).eval o).run P w=.ok (.value v') (w.alloc oc)) :
  Steps P (lone (a.at (.inRegion ops (i::rest)::k)) cs w) (lone ((a.put o.dst v').at (.inRegion ops rest::k)) cs (w.alloc oc)):=by
 have hg:=stepG_oper (P:=P) (w:=w) (k:=k) (cs:=cs) (rest:=rest) ho hw (.inr hk)
 exact go1 (by rw [hg,← finish_at ho]; simp [stepG.apply,hr])
theorem act_steps (hP:NoCount P) {r:Rec} (hR:RecOk P r) (hM:MR P φ A w) {n:Nat} {t:Tm} {a:Av} (hT:TR φ n t a.tmps) {ops:Array Oper} {i:Nat} {rest:List Nat} {k:List Item} {cs:List Frame} {o:Oper} (ho:ops[i]?=some o)
  (hc:∀ y ∈ o.op.operands.toList,constOk P y=true) (hw:Region.wanted o (yielded ops a.tmps)=true) {v:Value} {A':AW} (hv:ActOut P r o t A v A') :
  ∃ φ1 w1 v',MR P φ1 A' w1∧Ext φ A w φ1 A' w1∧VR φ1 v v'∧Steps P (lone (a.at (.inRegion ops (i::rest)::k)) cs w) (lone ((a.put o.dst v').at (.inRegion ops rest::k)) cs w1):=by
 rcases hv with hv | ⟨f,args,A1,x2,hv,hq⟩ | ⟨l,args,A1,b,hv,hq,rfl⟩
 ·exact val_steps hP hM hT ho hc hw hv
 ·have hop:=op_ok hP hM (fr:=a.at (.inRegion ops (i::rest)::k)) hT o hc
  have hg:=stepG_oper (P:=P) (w:=w) (k:=k) (cs:=cs) (rest:=rest) ho hw (.inr (not_defer hv (fun h=>by cases h) (fun d B h=>by cases h)))
  rw [hv] at hop
  obtain ⟨rfl,args',h3,h4⟩:=hop
  have hcall:=call_back hR hM f h4 (a.at (.inRegion ops (i::rest)::k)) cs
  rw [hq] at hcall
  obtain ⟨φ1,w1,v',h5,h6,h7,h8⟩:=hcall
  have henter:Steps P (lone (a.at (.inRegion ops (i::rest)::k)) cs w) (lone (Frame.enter P f ⟨args'⟩ .normal) (a.at (.inRegion ops (i::rest)::k)::cs) w):=go1 (by rw [hg]; simp [stepG.apply,h3,show (a.at (.inRegion ops (i::rest)::k)).todo=.inRegion ops (i::rest)::k from rfl])
  refine ⟨φ1,w1,v',h5,h6,h7,Steps.trans henter (by rw [← finish_at ho]; exact h8)⟩
 ·have hop:=op_ok hP hM (fr:=a.at (.inRegion ops (i::rest)::k)) hT o hc
  have hg:=stepG_oper (P:=P) (w:=w) (k:=k) (cs:=cs) (rest:=rest) ho hw (.inr (not_defer hv (fun h=>by cases h) (fun d B h=>by cases h)))
  rw [hv] at hop
  obtain ⟨rfl,l',args',h3,h4,h5⟩:=hop
  have hyi:=yield_ok hR hM h3 h4 (a.at (.inRegion ops (i::rest)::k)) cs
  rw [hq] at hyi
  obtain ⟨fn,tmps,assign,body,φ1,w1,h6,h7,h8,h9⟩:=hyi
  have hst:Steps P (lone (a.at (.inRegion ops (i::rest)::k)) cs w) (lone (Frame.round l' fn tmps assign body .normal) (a.at (.inRegion ops (i::rest)::k)::cs) w):=go1 (by rw [hg]; simp [stepG.apply,h5,h6])
  exact ⟨φ1,w1,.bool b,h7,h8,.bool b,Steps.trans hst (by rw [← finish_at ho]; exact h9)⟩
theorem pan_steps (hP:NoCount P) {r:Rec} (hR:RecOk P r) (hM:MR P φ A w) {n:Nat} {t:Tm} {a:Av} (hT:TR φ n t a.tmps) {ops:Array Oper} {i:Nat} {rest:List Nat} {k:List Item} {cs:List Frame} {o:Oper} (ho:ops[i]?=some o)
  (hc:∀ y ∈ o.op.operands.toList,constOk P y=true) (hw:Region.wanted o (yielded ops a.tmps)=true) {v:Value} {A':AW} (hv:ActPan P r o t A v A') :
  ∃ φ1 w1 v',MR P φ1 A' w1∧Ext φ A w φ1 A' w1∧VR φ1 v v'∧Steps P (lone (a.at (.inRegion ops (i::rest)::k)) cs w) (lone (a.pan (.inRegion ops (i::rest)::k) v') cs w1):=by
 have hop:=op_ok hP hM (fr:=a.at (.inRegion ops (i::rest)::k)) hT o hc
 rcases hv with hv | ⟨f,args,A1,x2,hv,hq⟩ | ⟨l,args,A1,hv,hq⟩
 ·have hg:=stepG_oper (P:=P) (w:=w) (k:=k) (cs:=cs) (rest:=rest) ho hw (.inr (not_defer hv (fun h=>by cases h) (fun d B h=>by cases h)))
  rw [hv] at hop
  obtain ⟨φ1,w1,h1,h2,v',h3,h4⟩:=hop
  exact ⟨φ1,w1,v',h1,h2,h3,go1 (by rw [hg]; simp [stepG.apply,h4,← pan_at])⟩
 ·have hg:=stepG_oper (P:=P) (w:=w) (k:=k) (cs:=cs) (rest:=rest) ho hw (.inr (not_defer hv (fun h=>by cases h) (fun d B h=>by cases h)))
  rw [hv] at hop
  obtain ⟨rfl,args',h3,h4⟩:=hop
  have hcall:=call_back hR hM f h4 (a.at (.inRegion ops (i::rest)::k)) cs
  rw [hq] at hcall
  obtain ⟨φ1,w1,v',h5,h6,h7,h8⟩:=hcall
  have henter:Steps P (lone (a.at (.inRegion ops (i::rest)::k)) cs w) (lone (Frame.enter P f ⟨args'⟩ .normal) (a.at (.inRegion ops (i::rest)::k)::cs) w):=go1 (by rw [hg]; simp [stepG.apply,h3,show (a.at (.inRegion ops (i::rest)::k)).todo=.inRegion ops (i::rest)::k from rfl])
  exact ⟨φ1,w1,v',h5,h6,h7,Steps.trans henter (by rw [← pan_at]; exact h8)⟩
 ·have hg:=stepG_oper (P:=P) (w:=w) (k:=k) (cs:=cs) (rest:=rest) ho hw (.inr (not_defer hv (fun h=>by cases h) (fun d B h=>by cases h)))
  rw [hv] at hop
  obtain ⟨rfl,l',args',h3,h4,h5⟩:=hop
  have hyi:=yield_ok hR hM h3 h4 (a.at (.inRegion ops (i::rest)::k)) cs
  rw [hq] at hyi
  obtain ⟨fn,tmps,assign,body,φ1,w1,v',h6,h7,h8,h9,h10⟩:=hyi
  have hst:Steps P (lone (a.at (.inRegion ops (i::rest)::k)) cs w) (lone (Frame.round l' fn tmps assign body .normal) (a.at (.inRegion ops (i::rest)::k)::cs) w):=go1 (by rw [hg]; simp [stepG.apply,h5,h6])
  exact ⟨φ1,w1,v',h7,h8,h9,Steps.trans hst (by rw [← pan_at]; exact h10)⟩
end Go.Sh
namespace Go.Sh
open Go
variable {P:Program} {φ:Inj} {A:AW} {w:World}
section sim
variable {r:Rec} {n lo:Nat} {ops:Array Oper} {ord:List Nat} {M:Nat} {tp:Nat→Tm} {Ap:Nat→AW} {vp:Nat→Value} {φ0:Inj} {w0:World} {ds:List Deferred} {D:List Nat} {q:Nat}
structure MidD (P:Program) (ops:Array Oper) (ord:List Nat) (M:Nat) (tp:Nat→Tm) (Ap:Nat→AW) (φ0:Inj) (w0:World) (D:List Nat) (q:Nat) (φ:Inj) (w:World):Prop where
 hq:q≤M
 acts:∀ (p i:Nat) (o:Oper),p < q→ord[p]?=some i→ops.toList[i]?=some o→isAct P o.op=true→i ∈ D
 mr:MR P φ (Ap q) w
 ext:Ext φ0 (Ap 0) w0 φ (Ap q) w
 mono:∀ p p':Nat,p≤p'→p'≤q→(Ap p).next≤(Ap p').next
 pool:∀ (p i:Nat) (o:Oper) (bk:AObj) (f:Nat→Value),p < q→ord[p]?=some i→ops.toList[i]?=some o→i ∉ D→(guardS ops.toList o.guard).val (tp p)=some true→kindOf P o.op=3 →
  (∀ B,(opS P o.type o.op).val (tp p) B=newR B bk f)→(Ap p).next < (Ap q).next∧φ (Ap p).next=none∧(Ap q).heap.get (Ap p).next=some bk
theorem newR_inj {bk bk':AObj} {f f':Nat→Value} (h:newR A bk f=newR A bk' f'):bk=bk':=by
 unfold newR at h
 injection h with _ h
 have:=congrArg (fun B=>B.heap.get A.next) h
 simp only [get_add,if_true] at this
 exact Option.some.inj this
theorem MidD.step (R:RunD P r n ops.toList (Region.before ops).toList [] ord M tp Ap vp) (hl:(Ap 0).lim≤(Ap 0).next) (H:MidD P ops ord M tp Ap φ0 w0 D q φ w) (hq:q < M) {i:Nat} {o:Oper} (hi:ord[q]?=some i) (ho:ops.toList[i]?=some o) (hn:isAct P o.op=false) :
  MidD P ops ord M tp Ap φ0 w0 D (q + 1) φ w:=by
 have hacts:∀ (p i:Nat) (o:Oper),p < q + 1→ord[p]?=some i→ops.toList[i]?=some o→isAct P o.op=true→i ∈ D:=fun p i' o' hp hi' ho' ha=>by
  by_cases e:p=q
  ·subst e
   rw [hi] at hi'; cases hi'
   rw [ho] at ho'; cases ho'
   rw [hn] at ha; cases ha
  ·exact H.acts p i' o' (by omega) hi' ho' ha
 obtain ⟨_,hs⟩:=R.quiet hq hi ho hn
 have same:Ap (q + 1)=Ap q→¬ ((guardS ops.toList o.guard).val (tp q)=some true∧kindOf P o.op=3)→MidD P ops ord M tp Ap φ0 w0 D (q + 1) φ w:=fun e hne=>by
  refine ⟨hq,hacts,e ▸ H.mr,e ▸ H.ext,fun p p' h1 h2=>?_,fun p i' o' bk f hp hi' ho' hD hg hk hB=>?_⟩
  ·by_cases e1:p'=q + 1
   ·subst e1
    by_cases e2:p=q + 1
    ·rw [e2]; exact Nat.le_refl _
    ·rw [e]; exact H.mono p q (by omega) (Nat.le_refl _)
   ·exact H.mono p p' h1 (by omega)
  ·by_cases e1:p=q
   ·subst e1
    rw [hi] at hi'; cases hi'
    rw [ho] at ho'; cases ho'
    exact absurd ⟨hg,hk⟩ hne
   ·rw [e]; exact H.pool p i' o' bk f (by omega) hi' ho' hD hg hk hB
 rcases hs with ⟨h1,_,h2⟩ | ⟨h1,h2,⟨h3,h4⟩ | ⟨h3,bk0,f0,hB0,h4⟩⟩
 ·exact same h2 fun h=>by rw [h1] at h; cases h.1
 ·exact same h4 fun h=>h3 h.2
 ·refine ⟨hq,hacts,h4 ▸ H.mr.more bk0,h4 ▸ H.ext.more hl bk0,fun p p' g1 g2=>?_,fun p i' o' bk f hp hi' ho' hD hg hk hB=>?_⟩
  ·by_cases e1:p'=q + 1
   ·subst e1
    by_cases e2:p=q + 1
    ·rw [e2]; exact Nat.le_refl _
    ·rw [h4]; exact Nat.le_trans (H.mono p q (by omega) (Nat.le_refl _)) (Nat.le_succ _)
   ·exact H.mono p p' g1 (by omega)
  ·rw [h4]
   by_cases e1:p=q
   ·subst e1
    rw [hi] at hi'; cases hi'
    rw [ho] at ho'; cases ho'
    have:bk0=bk:=newR_inj ((hB0 (Ap p)).symm.trans (hB (Ap p)))
    subst this
    exact ⟨Nat.lt_succ_self _,H.mr.fresh _ (Nat.le_refl _),by rw [get_add,if_pos rfl]⟩
   ·obtain ⟨g1,g2,g3⟩:=H.pool p i' o' bk f (by omega) hi' ho' hD hg hk hB
    exact ⟨Nat.lt_succ_of_lt g1,g2,by rw [get_add,if_neg (by omega)]; exact g3⟩
theorem MidD.next (S:StatD P ops.toList (Region.before ops).toList ord) (R:RunD P r n ops.toList (Region.before ops).toList [] ord M tp Ap vp) (hl:(Ap 0).lim≤(Ap 0).next):∀ (k q:Nat),M - q=k→MidD P ops ord M tp Ap φ0 w0 D q φ w →
  ∃ q',q≤q'∧MidD P ops ord M tp Ap φ0 w0 D q' φ w∧(q'=M∨∃ i o,ord[q']?=some i∧ops.toList[i]?=some o∧isAct P o.op=true)
 | 0,q,hk,H=>⟨q,Nat.le_refl _,H,.inl (by have:=H.hq; omega)⟩
 | k + 1,q,hk,H=>by
  have hlt:q < ord.length:=Nat.lt_of_lt_of_le (by omega) R.le
  obtain ⟨o,ho⟩:=S.op q ord[q] (List.getElem?_eq_getElem hlt)
  cases ha:isAct P o.op with
  | true=>exact ⟨q,Nat.le_refl _,H,.inr ⟨_,o,List.getElem?_eq_getElem hlt,ho,ha⟩⟩
  | false =>
   obtain ⟨q',h1,h2,h3⟩:=MidD.next S R hl k (q + 1) (by omega) (H.step R hl (by omega) (List.getElem?_eq_getElem hlt) ho ha)
   exact ⟨q',by omega,h2,h3⟩
def ClosedD (ops:Array Oper) (D:List Nat):Prop:=∀ (i:Nat) (o:Oper) (e:Edge),i ∈ D→ops.toList[i]?=some o→e ∈ o.after.toList→Region.binds .any e=true→e.on ∈ D
theorem ClosedD.bits (S:StatD P ops.toList (Region.before ops).toList ord) (h:ClosedD ops D):∀ (p i j:Nat),ord[p]?=some i→i ∈ D→bitOf (Region.before ops).toList i j=true→j ∈ D:=by
 intro p
 induction p using Nat.strongRecOn with
 | _ p ih =>
  intro i j hp hi hb
  obtain ⟨o,e,g1,g2,g3,g4⟩:=bit_edge hb
  have hon:=h i o e hi g1 g2 g3
  obtain ⟨p',g5,g6⟩:=S.edge p i o e hp g1 g2 g3
  rcases g4 with g4 | g4
  ·exact g4 ▸ hon
  ·exact ih p' g5 e.on j g6 hon g4
theorem ClosedD.bits' (S:StatD P ops.toList (Region.before ops).toList ord) (h:ClosedD ops D) {i j:Nat} (hi:i ∈ D) (hb:bitOf (Region.before ops).toList i j=true):j ∈ D:=by
 obtain ⟨o,e,g1,_⟩:=bit_edge hb
 obtain ⟨p,hp⟩:=S.surj i o g1
 exact h.bits S p i j hp hi hb
theorem clean_agree (S:StatD P ops.toList (Region.before ops).toList ord) (R:RunD P r n ops.toList (Region.before ops).toList [] ord M tp Ap vp) {p i:Nat} {o:Oper} (hp:ord[p]?=some i) (ho:ops.toList[i]?=some o) (hk:kindOf P o.op=1) (h1:p≤q) (h2:q≤M)
  (d:Tmp) (hd:looks ops.toList o d=true):tget (tp q) d=tget (tp p) d:=by
 by_cases hw:∃ (j:Nat) (oj:Oper),ops.toList[j]?=some oj∧oj.dst=some d
 ·obtain ⟨j,oj,hj,hjd⟩:=hw
  by_cases e:j=i
  ·subst e
   rw [ho] at hj; cases hj
   rw [S.self _ _ _ ho hjd hk] at hd; cases hd
  ·obtain ⟨pj,g1,g2⟩:=S.line p i j hp (S.clean j i oj o d hj ho e hjd hd hk)
   rw [R.tp_some S g2 hj hjd q h2 (by omega),R.tp_some S g2 hj hjd p (by omega) g1]
 ·have hno:∀ (p i:Nat) (o:Oper),ord[p]?=some i→ops.toList[i]?=some o→o.dst ≠ some d:=fun p i o _ ho hd=>hw ⟨i,o,ho,hd⟩
  rw [R.tp_none q h2 fun p i o _=>hno p i o,R.tp_none p (by omega) fun p i o _=>hno p i o]
theorem RunD.still (S:StatD P ops.toList (Region.before ops).toList ord) (R:RunD P r n ops.toList (Region.before ops).toList [] ord M tp Ap vp) {p:Nat}:∀ q:Nat,p≤q→q≤M→(∀ (s j:Nat) (oj:Oper),p≤s→s < q→ord[s]?=some j→ops.toList[j]?=some oj→kindOf P oj.op < 2)→Ap q=Ap p
 | 0,h,_,_=>by rw [Nat.le_zero.1 h]
 | q + 1,h,hM,hs=>by
  by_cases e:p=q + 1
  ·rw [e]
  ·have hlt:q < ord.length:=Nat.lt_of_lt_of_le (by omega) R.le
   obtain ⟨o,ho⟩:=S.op q ord[q] (List.getElem?_eq_getElem hlt)
   have hk:=hs q ord[q] o (by omega) (Nat.lt_succ_self _) (List.getElem?_eq_getElem hlt) ho
   have hn:isAct P o.op=false:=by
    cases ha:isAct P o.op with
    | false=>rfl
    | true=>have:=isAct_iff.1 ha; omega
   have ih:=R.still S q (by omega) (by omega) fun s j oj h1 h2=>hs s j oj h1 (by omega)
   obtain ⟨_,hst⟩:=R.quiet (by omega) (List.getElem?_eq_getElem hlt) ho hn
   rcases hst with ⟨_,_,h2⟩ | ⟨_,_,⟨_,h2⟩ | ⟨h2,_⟩⟩
   ·rw [h2,ih]
   ·rw [h2,ih]
   ·omega
theorem reads_at (S:StatD P ops.toList (Region.before ops).toList ord) (R:RunD P r n ops.toList (Region.before ops).toList [] ord M tp Ap vp) (hq:q≤M) (hstop:q=ord.length∨∃ i o,ord[q]?=some i∧ops.toList[i]?=some o∧isAct P o.op=true)
  (hacts:∀ (p i:Nat) (o:Oper),p < q→ord[p]?=some i→ops.toList[i]?=some o→isAct P o.op=true→i ∈ D) (hcl:ClosedD ops D)
  {p i:Nat} {o:Oper} (hpq:p < q) (hp:ord[p]?=some i) (ho:ops.toList[i]?=some o) (hD:i ∉ D) (hg:(guardS ops.toList o.guard).val (tp p)=some true) (hk:kindOf P o.op=1) :
  (opS P o.type o.op).val (tp p) (Ap q)=.val (vp p) (Ap q):=by
 have hn:isAct P o.op=false:=by
  cases ha:isAct P o.op with
  | false=>rfl
  | true=>have:=isAct_iff.1 ha; omega
 obtain ⟨hok,hs⟩:=R.quiet (by omega) hp ho hn
 have hs':(opS P o.type o.op).val (tp p) (Ap p)=.val (vp p) (Ap (p + 1))∧Ap (p + 1)=Ap p:=by
  rcases hs with ⟨h1,_⟩ | ⟨_,h2,⟨_,h3⟩ | ⟨h3,_⟩⟩
  ·rw [h1] at hg; cases hg
  ·exact ⟨h2,h3⟩
  ·omega
 by_cases hdirty:∃ (s j:Nat) (oj:Oper),p < s∧s < q∧ord[s]?=some j∧ops.toList[j]?=some oj∧2≤kindOf P oj.op
 ·obtain ⟨s,j,oj,g1,g2,g3,g4,g5⟩:=hdirty
  have hag:=R.again q hq hstop
  have hmem:i ∈ againAt P ops.toList (Region.before ops).toList ((ord.take q).reverse++[]) false []:=by
   rw [take_parts hp hpq,List.append_assoc]
   refine againAt_mem ho hk _ _ false [] (fun j hj=>?_) (.inr ⟨j,part_mem g1 g2 g3,oj,g4,g5⟩) (fun a ha=>by cases ha) fun a ha oa hoa haa=>?_
   ·obtain ⟨s,_,_,h3⟩:=mem_part hj
    exact S.op s j h3
   ·obtain ⟨s,h1,h2,h3⟩:=mem_part ha
    have hin:=hacts s a oa h2 h3 hoa haa
    cases hb:bitOf (Region.before ops).toList a i with
    | false=>rfl
    | true=>exact absurd (hcl.bits S s a i h3 hin hb) hD
  have hre:=againAll_mem hag i hmem
  have hagree:=clean_agree S R hp ho hk (Nat.le_of_lt hpq) hq
  have hg':(guardS ops.toList o.guard).val (tp q)=some true:=by rw [guardS_congr hagree]; exact hg
  obtain ⟨d,hd,hv⟩:=readAgain_some ho hk hre hg'
  rw [R.tp_some S hp ho hd q hq hpq] at hv
  rw [← opS_congr o.type o.op (Ap q) (same_of hagree)]
  exact hv
 ·have e:Ap q=Ap (p + 1):=R.still S q (by omega) hq fun s j oj h1 h2 h3 h4=>by
   apply Classical.byContradiction
   intro h
   exact hdirty ⟨s,j,oj,by omega,h2,h3,h4,by omega⟩
  rw [e,hs'.2] at *
  exact hs'.1
end sim
end Go.Sh
namespace Go.Sh
open Go
variable {P:Program} {φ:Inj} {A:AW} {w:World}
section sim
variable {r:Rec} {n lo:Nat} {ops:Array Oper} {ord:List Nat} {M:Nat} {tp:Nat→Tm} {Ap:Nat→AW} {vp:Nat→Value} {φ0:Inj} {w0:World} {ds:List Deferred} {D:List Nat} {q:Nat} {tS:Tm} {a:Av}
structure SimD (P:Program) (n lo:Nat) (ops:Array Oper) (ord:List Nat) (M:Nat) (tp:Nat→Tm) (Ap:Nat→AW) (vp:Nat→Value) (φ0:Inj) (w0:World) (ds:List Deferred) (D:List Nat) (q:Nat) (φ:Inj) (w:World) (tS:Tm) (a:Av):Prop where
 mid:MidD P ops ord M tp Ap φ0 w0 D q φ w
 stop:(q=M∧M=ord.length)∨∃ i o,ord[q]?=some i∧ops.toList[i]?=some o∧isAct P o.op=true∧i ∉ D
 closed:ClosedD ops D
 lt:∀ (i p:Nat),i ∈ D→ord[p]?=some i→p < q
 held:Held φ w n lo tS ds a
 some_:∀ (p i:Nat) (o:Oper) (d:Tmp),ord[p]?=some i→ops.toList[i]?=some o→i ∈ D→o.dst=some d→tget tS d=vp p
 none_:∀ d:Tmp,(∀ (i:Nat) (o:Oper),i ∈ D→ops.toList[i]?=some o→o.dst ≠ some d)→tget tS d=tget (tp 0) d
 reads:∀ (p i:Nat) (o:Oper),p < q→ord[p]?=some i→ops.toList[i]?=some o→i ∉ D→(guardS ops.toList o.guard).val (tp p)=some true→kindOf P o.op=1→(opS P o.type o.op).val (tp p) (Ap q)=.val (vp p) (Ap q)
theorem SimD.agree (S:StatD P ops.toList (Region.before ops).toList ord) (R:RunD P r n ops.toList (Region.before ops).toList [] ord M tp Ap vp) (H:SimD P n lo ops ord M tp Ap vp φ0 w0 ds D q φ w tS a)
  {p i:Nat} {o:Oper} (hp:ord[p]?=some i) (ho:ops.toList[i]?=some o) (hi:i ∉ D) (hpq:p≤q) (hpre:∀ j,bitOf (Region.before ops).toList i j=true→j ∈ D) (d:Tmp) (hd:looks ops.toList o d=true):tget tS d=tget (tp p) d:=by
 have hM:=H.mid.hq
 by_cases hw:∃ (j:Nat) (oj:Oper),ops.toList[j]?=some oj∧oj.dst=some d
 ·obtain ⟨j,oj,hj,hjd⟩:=hw
  obtain ⟨pj,hpj⟩:=S.surj j oj hj
  have uniq:∀ (i':Nat) (o':Oper),ops.toList[i']?=some o'→o'.dst=some d→i'=j:=fun i' o' h1 h2=>by
   apply Classical.byContradiction
   intro hne
   exact S.dst i' j o' oj d h1 hj hne h2 hjd
  have later:j ∉ D→p≤pj→tget tS d=tget (tp p) d:=fun hjD hle=>by
   rw [H.none_ d fun i' o' h1 h2 h3=>hjD (uniq i' o' h2 h3 ▸ h1)]
   rw [R.tp_none p (by omega) fun p' i' o' h1 h2 h3 h4=>by
    have:=uniq i' o' h3 h4
    subst this
    have:=S.inj p' pj i' h2 hpj
    omega]
  by_cases e:j=i
  ·subst e
   exact later hi (Nat.le_of_eq (S.inj p pj j hp hpj))
  ·rcases S.look j i oj o d hj ho e hjd hd with hb | hb
   ·-- the one that looks is before the one that sets
    refine later (fun hjD=>hi (H.closed.bits' S hjD hb)) ?_
    obtain ⟨p',g1,g2⟩:=S.line pj j i hpj hb
    have:=S.inj p p' i hp g2
    omega
   ·have hjD:=hpre j hb
    obtain ⟨p',g1,g2⟩:=S.line p i j hp hb
    rw [H.some_ p' j oj d g2 hj hjD hjd,R.tp_some S g2 hj hjd p (by omega) g1]
 ·rw [H.none_ d fun i' o' _ h2 h3=>hw ⟨i',o',h2,h3⟩,R.tp_none p (by omega) fun p' i' o' _ _ h3 h4=>hw ⟨i',o',h3,h4⟩]
theorem put_dst (S:StatD P ops.toList (Region.before ops).toList ord) {i:Nat} {o:Oper} (ho:ops.toList[i]?=some o) (hdst:dstOk n o.dst=true) {p:Nat} (hp:ord[p]?=some i)
  (hs:∀ (p i:Nat) (o:Oper) (d:Tmp),ord[p]?=some i→ops.toList[i]?=some o→i ∈ D→o.dst=some d→tget tS d=vp p) :
  ∀ (p' i':Nat) (o':Oper) (d:Tmp),ord[p']?=some i'→ops.toList[i']?=some o'→i' ∈ i::D→o'.dst=some d→tget ((putDst o.dst).val (vp p) tS) d=vp p':=by
 intro p' i' o' d h1 h2 h3 h4
 rw [tget_put hdst]
 by_cases e:i'=i
 ·subst e
  rw [ho] at h2; cases h2
  rw [if_pos h4,S.inj p' p i' h1 hp]
 ·rw [if_neg (S.dst i' i o' o d h2 ho e h4)]
  rcases List.mem_cons.1 h3 with h3 | h3
  ·exact absurd h3 e
  ·exact hs p' i' o' d h1 h2 h3 h4
theorem put_none {i:Nat} {o:Oper} (ho:ops.toList[i]?=some o) (hdst:dstOk n o.dst=true) {v:Value} {t0:Tm}
  (hs:∀ d:Tmp,(∀ (i:Nat) (o:Oper),i ∈ D→ops.toList[i]?=some o→o.dst ≠ some d)→tget tS d=tget t0 d) :
  ∀ d:Tmp,(∀ (i':Nat) (o':Oper),i' ∈ i::D→ops.toList[i']?=some o'→o'.dst ≠ some d)→tget ((putDst o.dst).val v tS) d=tget t0 d:=by
 intro d h
 rw [tget_put hdst,if_neg (h i o (List.mem_cons_self ..) ho)]
 exact hs d fun i' o' h1=>h i' o' (List.mem_cons_of_mem _ h1)
theorem closed_cons {i:Nat} {o:Oper} (ho:ops.toList[i]?=some o) (hpre:∀ e ∈ o.after.toList,Region.binds .any e=true→e.on ∈ D) (h:ClosedD ops D):ClosedD ops (i::D):=fun i' o' e h1 h2 h3 h4=>by
 rcases List.mem_cons.1 h1 with h1 | h1
 ·subst h1
  rw [ho] at h2; cases h2
  exact List.mem_cons_of_mem _ (hpre e h3 h4)
 ·exact List.mem_cons_of_mem _ (h i' o' e h1 h2 h3 h4)
theorem SimD.done (S:StatD P ops.toList (Region.before ops).toList ord) (R:RunD P r n ops.toList (Region.before ops).toList [] ord M tp Ap vp) (H:SimD P n lo ops ord M tp Ap vp φ0 w0 ds D q φ w tS a)
  {p i:Nat} {o:Oper} (hp:ord[p]?=some i) (hpq:p < q) (ho:ops.toList[i]?=some o) (hi:i ∉ D) (hok:operOk P n o=true) (hpre:∀ e ∈ o.after.toList,Region.binds .any e=true→e.on ∈ D)
  {φ':Inj} {w':World} {v':Value} (hM:MR P φ' (Ap q) w') (hE:Ext φ0 (Ap 0) w0 φ' (Ap q) w') (hH:Held φ' w' n lo tS ds a) (hv:VR φ' (vp p) v')
  (hφ:∀ x,x < (Ap q).next→φ x=none→φ' x=none∨(x=(Ap p).next∧(Ap p).next < (Ap (p + 1)).next)) :
  SimD P n lo ops ord M tp Ap vp φ0 w0 ds (i::D) q φ' w' ((putDst o.dst).val (vp p) tS) (a.put o.dst v'):=by
 have hMq:=H.mid.hq
 have hdst:=(operOk_some hok).1
 refine ⟨⟨hMq,fun p' i' o' h1 h2 h3 h4=>List.mem_cons_of_mem _ (H.mid.acts p' i' o' h1 h2 h3 h4),hM,hE,H.mid.mono,fun p' i' o' bk f h1 h2 h3 h4 h5 h6 h7=>?_⟩,?_,closed_cons ho hpre H.closed,fun i' p' h1 h2=>?_,hH.put hdst hv,put_dst S ho hdst hp H.some_,put_none ho hdst H.none_,fun p' i' o' h1 h2 h3 h4=>H.reads p' i' o' h1 h2 h3 fun h=>h4 (List.mem_cons_of_mem _ h)⟩
 ·have h4':i' ∉ D:=fun h=>h4 (List.mem_cons_of_mem _ h)
  have hne:i' ≠ i:=fun h=>h4 (h ▸ List.mem_cons_self ..)
  obtain ⟨g1,g2,g3⟩:=H.mid.pool p' i' o' bk f h1 h2 h3 h4' h5 h6 h7
  refine ⟨g1,?_,g3⟩
  rcases hφ _ g1 g2 with g | ⟨ge,glt⟩
  ·exact g
  ·exfalso
   have hn':isAct P o'.op=false:=by
    cases ha:isAct P o'.op with
    | false=>rfl
    | true=>have:=isAct_iff.1 ha; omega
   have hgrow:(Ap p').next < (Ap (p' + 1)).next:=by
    obtain ⟨_,hs⟩:=R.quiet (by omega) h2 h3 hn'
    rcases hs with ⟨e1,_⟩ | ⟨_,_,⟨e1,_⟩ | ⟨_,bk',f',_,e1⟩⟩
    ·rw [e1] at h5; cases h5
    ·exact absurd h6 e1
    ·rw [e1]; exact Nat.lt_succ_self _
   have hpp:p ≠ p':=fun e=>hne (by rw [e,h2] at hp; exact Option.some.inj hp)
   rcases Nat.lt_or_ge p p' with h | h
   ·have:=H.mid.mono (p + 1) p' (by omega) (by omega)
    omega
   ·have:=H.mid.mono (p' + 1) p (by omega) (by omega)
    omega
 ·rcases H.stop with h | ⟨iq,oq,g1,g2,g3,g4⟩
  ·exact .inl h
  ·refine .inr ⟨iq,oq,g1,g2,g3,fun h=>?_⟩
   rcases List.mem_cons.1 h with h | h
   ·have:=S.inj q p i (h ▸ g1) hp
    omega
   ·exact g4 h
 ·rcases List.mem_cons.1 h1 with h | h
  ·subst h
   rw [S.inj p' p i' h2 hp]
   exact hpq
  ·exact H.lt i' p' h h2
theorem SimD.at_ (S:StatD P ops.toList (Region.before ops).toList ord) (R:RunD P r n ops.toList (Region.before ops).toList [] ord M tp Ap vp) (hl:(Ap 0).lim≤(Ap 0).next) (hend:M=ord.length∨∃ i o,ord[M]?=some i∧ops.toList[i]?=some o∧isAct P o.op=true)
  (Hm:MidD P ops ord M tp Ap φ0 w0 D q φ w) (hcl:ClosedD ops D) (hlt:∀ (i p:Nat),i ∈ D→ord[p]?=some i→p < q) (hH:Held φ w n lo tS ds a)
  (hs:∀ (p i:Nat) (o:Oper) (d:Tmp),ord[p]?=some i→ops.toList[i]?=some o→i ∈ D→o.dst=some d→tget tS d=vp p)
  (hn:∀ d:Tmp,(∀ (i:Nat) (o:Oper),i ∈ D→ops.toList[i]?=some o→o.dst ≠ some d)→tget tS d=tget (tp 0) d) :
  ∃ q',SimD P n lo ops ord M tp Ap vp φ0 w0 ds D q' φ w tS a:=by
 obtain ⟨q',h1,h2,h3⟩:=MidD.next S R hl (M - q) q rfl Hm
 have hq':=h2.hq
 have hlt':∀ (i p:Nat),i ∈ D→ord[p]?=some i→p < q':=fun i p g1 g2=>Nat.lt_of_lt_of_le (hlt i p g1 g2) h1
 have hstop:(q'=M∧M=ord.length)∨∃ i o,ord[q']?=some i∧ops.toList[i]?=some o∧isAct P o.op=true:=by
  rcases h3 with h3 | h3
  ·rcases hend with h4 | h4
   ·exact .inl ⟨h3,h4⟩
   ·exact .inr (h3 ▸ h4)
  ·exact .inr h3
 refine ⟨q',h2,?_,hcl,hlt',hH,hs,hn,fun p i o g1 g2 g3 g4 g5 g6=>?_⟩
 ·rcases hstop with h | ⟨i,o,g1,g2,g3⟩
  ·exact .inl h
  ·exact .inr ⟨i,o,g1,g2,g3,fun h=>Nat.lt_irrefl _ (hlt' i q' h g1)⟩
 ·exact reads_at S R hq' (hstop.imp (fun h=>h.1.trans h.2) id) h2.acts hcl g1 g2 g3 g4 g5 g6
theorem SimD.acted (S:StatD P ops.toList (Region.before ops).toList ord) (R:RunD P r n ops.toList (Region.before ops).toList [] ord M tp Ap vp) (hl:(Ap 0).lim≤(Ap 0).next) (hend:M=ord.length∨∃ i o,ord[M]?=some i∧ops.toList[i]?=some o∧isAct P o.op=true)
  (H:SimD P n lo ops ord M tp Ap vp φ0 w0 ds D q φ w tS a) {i:Nat} {o:Oper} (hq:q < M) (hp:ord[q]?=some i) (ho:ops.toList[i]?=some o) (hok:operOk P n o=true) (hpre:∀ e ∈ o.after.toList,Region.binds .any e=true→e.on ∈ D)
  {φ':Inj} {w':World} {v':Value} (hM:MR P φ' (Ap (q + 1)) w') (hE:Ext φ (Ap q) w φ' (Ap (q + 1)) w') (hv:VR φ' (vp q) v') :
  ∃ q',SimD P n lo ops ord M tp Ap vp φ0 w0 ds (i::D) q' φ' w' ((putDst o.dst).val (vp q) tS) (a.put o.dst v'):=by
 have hdst:=(operOk_some hok).1
 have Hm:MidD P ops ord M tp Ap φ0 w0 (i::D) (q + 1) φ' w':=by
  refine ⟨hq,fun p' i' o' h1 h2 h3 h4=>?_,hM,H.mid.ext.trans hE,fun p p' h1 h2=>?_,fun p' i' o' bk f h1 h2 h3 h4 h5 h6 h7=>?_⟩
  ·by_cases e:p'=q
   ·rw [e,hp] at h2
    cases h2
    exact List.mem_cons_self ..
   ·exact List.mem_cons_of_mem _ (H.mid.acts p' i' o' (by omega) h2 h3 h4)
  ·by_cases e1:p'=q + 1
   ·subst e1
    by_cases e2:p=q + 1
    ·rw [e2]; exact Nat.le_refl _
    ·exact Nat.le_trans (H.mid.mono p q (by omega) (Nat.le_refl _)) hE.next
   ·exact H.mid.mono p p' h1 (by omega)
  ·have h4':i' ∉ D:=fun h=>h4 (List.mem_cons_of_mem _ h)
   have hlt:p' < q:=by
    by_cases e:p'=q
    ·rw [e,hp] at h2
     cases h2
     exact absurd (List.mem_cons_self ..) h4
    ·omega
   obtain ⟨g1,g2,g3⟩:=H.mid.pool p' i' o' bk f hlt h2 h3 h4' h5 h6 h7
   obtain ⟨k1,k2⟩:=hE.idle _ g1 g2
   exact ⟨Nat.lt_of_lt_of_le g1 hE.next,k2,k1.trans g3⟩
 refine SimD.at_ S R hl hend Hm (closed_cons ho hpre H.closed) (fun i' p' h1 h2=>?_) ((H.held.ext hE).put hdst hv) (put_dst S ho hdst hp H.some_) (put_none ho hdst H.none_)
 rcases List.mem_cons.1 h1 with h | h
 ·subst h
  rw [S.inj p' q i' h2 hp]
  exact Nat.lt_succ_self _
 ·exact Nat.lt_succ_of_lt (H.lt i' p' h h2)
end sim
end Go.Sh
namespace Go.Sh
open Go
variable {P:Program} {φ:Inj} {A:AW} {w:World}
section sim
variable {r:Rec} {n lo:Nat} {ops:Array Oper} {ord:List Nat} {M:Nat} {tp:Nat→Tm} {Ap:Nat→AW} {vp:Nat→Value} {φ0:Inj} {w0:World} {ds:List Deferred} {D:List Nat} {q:Nat} {tS:Tm} {a:Av}
theorem junkAll_get {n:Nat} (d:Tmp):∀ (l:List Oper) (t:Tm),(∀ o ∈ l,dstOk n o.dst=true)→tget (junkAll l t) d=if l.any (fun o=>isDst d o.dst)=true then junk else tget t d
 | [],t,_=>by simp [junkAll]
 | o::l,t,h=>by
  have ho:=h o (List.mem_cons_self ..)
  have ih:=junkAll_get d l (match o.dst with | some d=>(setS 16 d).val junk t | none=>t) fun o' ho'=>h o' (List.mem_cons_of_mem _ ho')
  show tget (junkAll l (match o.dst with | some d=>(setS 16 d).val junk t | none=>t)) d=_
  rw [ih]
  have e:tget (match o.dst with | some d=>(setS 16 d).val junk t | none=>t) d=if isDst d o.dst=true then junk else tget t d:=by
   have:=tget_put ho junk t d
   cases hd:o.dst with
   | none=>simp [isDst]
   | some x =>
    rw [hd] at this
    show tget ((putDst (some x)).val junk t) d=_
    rw [this]
    by_cases hx:x=d
    ·subst hx; rw [if_pos rfl,if_pos (isDst_some.2 rfl)]
    ·rw [if_neg (fun h=>hx (Option.some.inj h)),if_neg (fun h=>hx (Option.some.inj (isDst_some.1 h)))]
  rw [e]
  simp only [List.any_cons,Bool.or_eq_true]
  by_cases h1:l.any (fun o=>isDst d o.dst)=true
  ·rw [if_pos h1,if_pos (.inr h1)]
  ·rw [if_neg h1]
   by_cases h2:isDst d o.dst=true
   ·rw [if_pos h2,if_pos (.inl h2)]
   ·rw [if_neg h2,if_neg (fun h=>h.elim h2 h1)]
def GoalD (P:Program) (n lo:Nat) (ops:Array Oper) (Ap:Nat→AW) (φ0:Inj) (w0:World) (ds:List Deferred) (ex:Ex) (t':Tm) (A':AW) (x:Ctx) (a0:Av) (cs:List Frame) (k:List Item) (a:Av) (w:World) (rest:List Nat):Prop :=
 ∃ φ' w' a' fr',MR P φ' A' w'∧Ext φ0 (Ap 0) w0 φ' A' w'∧HeldX ex φ' w' n lo t' ds a'∧a0.Like a'∧CtxR φ' x a0.kind a0.roundOf cs∧Where a' k ex φ' fr'∧Steps P (lone (a.at (.inRegion ops rest::k)) cs w) (lone fr' cs w')
theorem GoalD.steps {ex:Ex} {t':Tm} {A':AW} {x:Ctx} {a0 a a1:Av} {cs:List Frame} {k:List Item} {w1:World} {rest rest1:List Nat} (h:Steps P (lone (a.at (.inRegion ops rest::k)) cs w) (lone (a1.at (.inRegion ops rest1::k)) cs w1))
  (g:GoalD P n lo ops Ap φ0 w0 ds ex t' A' x a0 cs k a1 w1 rest1):GoalD P n lo ops Ap φ0 w0 ds ex t' A' x a0 cs k a w rest:=by
 obtain ⟨φ',w',a',fr',h1,h2,h3,h4,h5,h6,h7⟩:=g
 exact ⟨φ',w',a',fr',h1,h2,h3,h4,h5,h6,h.trans h7⟩
theorem SimD.end_ (S:StatD P ops.toList (Region.before ops).toList ord) (R:RunD P r n ops.toList (Region.before ops).toList [] ord M tp Ap vp) {ex:Ex} {t':Tm} {A':AW} (E:EndD P r n ops.toList ord M tp Ap ex t' A')
  (H:SimD P n lo ops ord M tp Ap vp φ0 w0 ds D q φ w tS a) (hall:∀ j,j < ops.size→j ∈ D) {x:Ctx} {a0:Av} {cs:List Frame} {k:List Item} (hx:CtxR φ x a0.kind a0.roundOf cs) (hl:a0.Like a) :
  GoalD P n lo ops Ap φ0 w0 ds ex t' A' x a0 cs k a w []:=by
 have hlt:∀ (i:Nat) (o:Oper),ops.toList[i]?=some o→i < ops.size:=fun i o h=>by simpa using (List.getElem?_eq_some_iff.1 h).1
 have hq:q=M∧M=ord.length:=by
  rcases H.stop with h | ⟨i,o,g1,g2,g3,g4⟩
  ·exact h
  ·exact absurd (hall i (hlt i o g2)) g4
 obtain ⟨hq1,hq2⟩:=hq
 rcases E with ⟨rfl,_,rfl,rfl⟩ | ⟨v,i,o,_,hM,_⟩
 ·have e:∀ d:Tmp,tget tS d=tget (tp M) d:=fun d=>by
   by_cases hw:∃ (j:Nat) (oj:Oper),ops.toList[j]?=some oj∧oj.dst=some d
   ·obtain ⟨j,oj,hj,hjd⟩:=hw
    obtain ⟨p,hp⟩:=S.surj j oj hj
    have hpl:p < ord.length:=(List.getElem?_eq_some_iff.1 hp).1
    rw [H.some_ p j oj d hp hj (hall j (hlt j oj hj)) hjd,R.tp_some S hp hj hjd M (Nat.le_refl _) (by omega)]
   ·rw [H.none_ d fun i' o' _ h2 h3=>hw ⟨i',o',h2,h3⟩,R.tp_none M (Nat.le_refl _) fun p' i' o' _ _ h3 h4=>hw ⟨i',o',h3,h4⟩]
  refine ⟨φ,w,a,a.at k,hq1 ▸ H.mid.mr,hq1 ▸ H.mid.ext,?_,hl,hx,rfl,step_region_end'⟩
  exact ⟨⟨H.held.tmps.1,fun d=>by rw [← e d]; exact H.held.tmps.2 d⟩,H.held.defers⟩
 ·rw [hq2,List.getElem?_eq_none (Nat.le_refl _)] at hM
  cases hM
theorem sim_step (hP:NoCount P) (hR:RecOk P r) (S:StatD P ops.toList (Region.before ops).toList ord) (R:RunD P r n ops.toList (Region.before ops).toList [] ord M tp Ap vp) (hl:(Ap 0).lim≤(Ap 0).next) {ex:Ex} {t':Tm} {A':AW} (E:EndD P r n ops.toList ord M tp Ap ex t' A')
  (hok:∀ o ∈ ops.toList,dstOk n o.dst=true) (H:SimD P n lo ops ord M tp Ap vp φ0 w0 ds D q φ w tS a) {x:Ctx} {a0:Av} {cs:List Frame} {k:List Item} (hx:CtxR φ x a0.kind a0.roundOf cs) (hla:a0.Like a)
  {i:Nat} {o:Oper} {rest:List Nat} (ho:ops[i]?=some o) (hi:i ∉ D) (hpre:∀ e ∈ o.after.toList,Region.binds .any e=true→e.on ∈ D)
  (next:∀ (q':Nat) (φ':Inj) (w':World) (tS':Tm) (a':Av),SimD P n lo ops ord M tp Ap vp φ0 w0 ds (i::D) q' φ' w' tS' a'→CtxR φ' x a0.kind a0.roundOf cs→a0.Like a'→GoalD P n lo ops Ap φ0 w0 ds ex t' A' x a0 cs k a' w' rest) :
  GoalD P n lo ops Ap φ0 w0 ds ex t' A' x a0 cs k a w (i::rest):=by
 have ho':ops.toList[i]?=some o:=by rw [Array.getElem?_toList]; exact ho
 have hend:M=ord.length∨∃ i o,ord[M]?=some i∧ops.toList[i]?=some o∧isAct P o.op=true:=E.imp (fun h=>h.2.1) fun ⟨v,i,o,_,g1,g2,_,g3,_⟩=>⟨i,o,g1,g2,g3⟩
 obtain ⟨p,hp⟩:=S.surj i o ho'
 have hpl:p < ord.length:=(List.getElem?_eq_some_iff.1 hp).1
 have hbits:∀ j,bitOf (Region.before ops).toList i j=true→j ∈ D:=fun j hb=>by
  obtain ⟨o',e,g1,g2,g3,g4⟩:=bit_edge hb
  rw [ho'] at g1; cases g1
  rcases g4 with g4 | g4
  ·exact g4 ▸ hpre e g2 g3
  ·exact H.closed.bits' S (hpre e g2 g3) g4
 -- it is not behind the next one that acts
 have hpq:p≤q:=by
  rcases H.stop with ⟨h1,h2⟩ | ⟨iq,oq,g1,g2,g3,g4⟩
  ·omega
  ·apply Classical.byContradiction
   intro hgt
   have hne:i ≠ iq:=fun e=>by
    have:=S.inj p q i hp (e ▸ g1)
    omega
   cases ha:isAct P o.op with
   | false=>exact g4 (hbits iq (S.asap p i o q iq oq hp ho' ha (by omega) g1 g2 g3))
   | true =>
    rcases S.acts i iq o oq ho' g2 hne ha g3 with hb | hb
    ·exact g4 (hbits iq hb)
    ·obtain ⟨p',g5,g6⟩:=S.line q iq i g1 hb
     have:=S.inj p p' i hp g6
     omega
 have hag:=H.agree S R hp ho' hi hpq hbits
 by_cases hlt:p < q
 ·-- it does not act
  have hn:isAct P o.op=false:=by
   cases ha:isAct P o.op with
   | false=>rfl
   | true=>exact absurd (H.mid.acts p i o hlt hp ho' ha) hi
  obtain ⟨hok1,hs⟩:=R.quiet (Nat.lt_of_lt_of_le hlt H.mid.hq) hp ho' hn
  have hc:=(operOk_some hok1).2
  rcases hs with ⟨h1,h2,h3⟩ | ⟨h1,h2,h3⟩
  ·have hw:=guardS_ok H.held.tmps (by rw [guardS_congr hag]; exact h1)
   refine GoalD.steps (step_skipped ho hw) (next q φ w _ _ (H.done S R hp hlt ho' hi hok1 hpre H.mid.mr H.mid.ext H.held (v':=undef) (by rw [h2]; exact undef_VR) fun x _ hx=>.inl hx) hx (hla.trans (a.like_put _ _)))
  ·have hw:=guardS_ok H.held.tmps (by rw [guardS_congr hag]; exact h1)
   rcases h3 with ⟨h3,h4⟩ | ⟨h3,bk,f,hB,h4⟩
   ·have hv:(opS P o.type o.op).val tS (Ap q)=.val (vp p) (Ap q):=by
     rw [opS_congr o.type o.op (Ap q) (same_of hag)]
     rcases kind_le (P:=P) o.op with h0 | h0 | h0 | h0
     ·exact (quiet_op h0 o.type (tp p) (Ap p) (Ap q) _ _ h2).2
     ·exact H.reads p i o hlt hp ho' hi h1 h0
     ·rw [isAct_iff.2 h0] at hn; cases hn
     ·exact absurd h0 h3
    obtain ⟨φ1,w1,v',g1,g2,g3,g4⟩:=val_steps hP H.mid.mr H.held.tmps ho hc hw hv (rest:=rest) (k:=k) (cs:=cs)
    exact GoalD.steps g4 (next q φ1 w1 _ _ (H.done S R hp hlt ho' hi hok1 hpre g1 (H.mid.ext.trans g2) (H.held.ext g2) g3 fun x hx hn=>.inl (g2.idle x hx hn).2) (hx.mono g2.le) (hla.trans (a.like_put _ _)))
   ·obtain ⟨k1,k2,k3⟩:=H.mid.pool p i o bk f hlt hp ho' hi h1 h3 hB
    have hv0:(opS P o.type o.op).val tS (Ap q)=newR (Ap q) bk f:=by rw [opS_congr o.type o.op (Ap q) (same_of hag)]; exact hB _
    obtain ⟨bk',f',hB',oc,n1,s1,v',m1,m2,m3⟩:=new_op (P:=P) h3 H.mid.mr (fr:=a.at (.inRegion ops (i::rest)::k)) H.held.tmps hc hv0
    have e1:bk'=bk:=newR_inj ((hB' (Ap q)).symm.trans hv0)
    subst e1
    have e2:f' (Ap p).next=vp p:=by
     have h5:=hB' (Ap p)
     rw [opS_congr o.type o.op (Ap p) (same_of hag),h2] at h5
     unfold newR at h5
     injection h5 with h5
     exact h5.symm
    have hMp:=H.mid.mr.place k2 k1 k3 m1
    have h0p:(Ap 0).next≤(Ap p).next:=H.mid.mono 0 p (Nat.zero_le _) (Nat.le_of_lt hlt)
    have hEp:=H.mid.ext.place hl k2 h0p oc n1 s1
    have hle:φ.le (φ.add (Ap p).next (.at_ w.heap.size n1 s1 0)):=Inj.le_add k2
    have hH':Held (φ.add (Ap p).next (.at_ w.heap.size n1 s1 0)) (w.alloc oc) n lo tS ds a:=by
     obtain ⟨q1,rs,q2,q3,q4,q5⟩:=H.held
     refine ⟨q1.mono hle,rs,q2.mono hle,q3,fun r hr=>⟨(q4 r hr).1,fun b n s d hb=>?_,?_⟩,q5⟩
     ·unfold Inj.add at hb
      split at hb
      ·injection hb with hb
       injection hb with hb
       have:=lt_of_heap (q4 r hr).2.2
       omega
      ·exact (q4 r hr).2.1 b n s d hb
     ·rw [push_old w oc (lt_of_heap (q4 r hr).2.2)]
      exact (q4 r hr).2.2
    refine GoalD.steps (new_steps ho hw (fun c hc'=>by rw [hc'] at h3; cases h3) m2) (next q _ _ _ _ (H.done S R hp hlt ho' hi hok1 hpre hMp hEp hH' (v':=v') (by rw [← e2]; exact m3 _ _ (by simp [Inj.add])) fun x hx hn=>?_) (hx.mono hle) (hla.trans (a.like_put _ _)))
    by_cases e:x=(Ap p).next
    ·exact .inr ⟨e,by rw [h4]; exact Nat.lt_succ_self _⟩
    ·exact .inl (by unfold Inj.add; rw [if_neg e]; exact hn)
 ·-- it is the next one that acts
  have epq:p=q:=by omega
  subst epq
  rcases H.stop with ⟨h1,h2⟩ | ⟨iq,oq,g1,g2,g3,g4⟩
  ·omega
  ·rw [hp] at g1; cases g1
   rw [ho'] at g2; cases g2
   by_cases hM:p < M
   ·obtain ⟨i',o',e1,e2,hok1,hst,_⟩:=R.step p hM
    rw [hp] at e1; cases e1
    rw [ho'] at e2; cases e2
    have hc:=(operOk_some hok1).2
    generalize hA:Ap (p + 1)=A1 at hst
    generalize hv:vp p=v at hst
    cases hst with
    | off h1 =>
     have hw:=guardS_ok H.held.tmps (by rw [guardS_congr hag]; exact h1)
     obtain ⟨q',hq'⟩:=H.acted S R hl hend hM hp ho' hok1 hpre (φ':=φ) (w':=w) (v':=undef) (by rw [hA]; exact H.mid.mr) (by rw [hA]; exact Ext.refl _ _ _) (by rw [hv]; exact undef_VR)
     exact GoalD.steps (step_skipped ho hw) (next q' φ w _ _ hq' hx (hla.trans (a.like_put _ _)))
    | quiet _ hk _=>rw [g3] at hk; cases hk
    | act h1 hk hout =>
     have hw:=guardS_ok H.held.tmps (by rw [guardS_congr hag]; exact h1)
     have hout':ActOut P r o tS (Ap p) v A1:=by
      unfold ActOut at hout ⊢
      rw [opS_congr o.type o.op (Ap p) (same_of hag)]
      exact hout
     obtain ⟨φ1,w1,v',m1,m2,m3,m4⟩:=act_steps hP hR H.mid.mr H.held.tmps ho hc hw hout' (rest:=rest) (k:=k) (cs:=cs)
     obtain ⟨q',hq'⟩:=H.acted S R hl hend hM hp ho' hok1 hpre (φ':=φ1) (w':=w1) (v':=v') (by rw [hA]; exact m1) (by rw [hA]; exact m2) (by rw [hv]; exact m3)
     exact GoalD.steps m4 (next q' φ1 w1 _ _ hq' (hx.mono m2.le) (hla.trans (a.like_put _ _)))
   ·-- it panics
    have eM:p=M:=by have:=H.mid.hq; omega
    rcases E with ⟨_,h2,_⟩ | ⟨v,i',o',rfl,e1,e2,hok1,hk,h1,hpan,rfl⟩
    ·omega
    ·rw [← eM,hp] at e1; cases e1
     rw [ho'] at e2; cases e2
     rw [← eM] at h1 hpan
     have hc:=(operOk_some hok1).2
     have hw:=guardS_ok H.held.tmps (by rw [guardS_congr hag]; exact h1)
     have hpan':ActPan P r o tS (Ap p) v A':=by
      unfold ActPan at hpan ⊢
      rw [opS_congr o.type o.op (Ap p) (same_of hag)]
      exact hpan
     obtain ⟨φ1,w1,v',m1,m2,m3,m4⟩:=pan_steps hP hR H.mid.mr H.held.tmps ho hc hw hpan' (rest:=rest) (k:=k) (cs:=cs)
     refine ⟨φ1,w1,a,_,m1,H.mid.ext.trans m2,⟨fun d=>?_,(H.held.ext m2).defers⟩,hla,hx.mono m2.le,⟨_,v',rfl,m3,plain_region _ _ _⟩,m4⟩
     rw [junkAll_get (n:=n) d _ _ hok]
     by_cases hd:ops.toList.any (fun o=>isDst d o.dst)=true
     ·rw [if_pos hd]; exact .inl rfl
     ·rw [if_neg hd]
      have hno:∀ (i:Nat) (o:Oper),ops.toList[i]?=some o→o.dst ≠ some d:=fun i o h1 h2=>hd (List.any_eq_true.2 ⟨o,List.mem_of_getElem? h1,isDst_some.2 h2⟩)
      rw [R.tp_none M (Nat.le_refl _) fun p' i' o' _ _ h3=>hno i' o' h3,← H.none_ d fun i' o' _ h2=>hno i' o' h2]
      exact .inr ((H.held.ext m2).tmps.2 d)
end sim
end Go.Sh
namespace Go.Sh
open Go
variable {P:Program} {φ:Inj} {A:AW} {w:World}
section sim
variable {r:Rec} {n lo:Nat} {ops:Array Oper} {ord:List Nat} {M:Nat} {tp:Nat→Tm} {Ap:Nat→AW} {vp:Nat→Value} {φ0:Inj} {w0:World} {ds:List Deferred}
theorem ready_mem {listed:Array Bool} {i:Nat} (h:i ∈ Region.ready .any ops listed):i < ops.size∧listed.getD i true=false∧∃ o,ops[i]?=some o∧∀ e ∈ o.after.toList,Region.binds .any e=true→listed.getD e.on false=true:=by
 unfold Region.ready at h
 rw [List.mem_filter,List.mem_range] at h
 obtain ⟨h1,h2⟩:=h
 rw [Bool.and_eq_true] at h2
 obtain ⟨h2,h3⟩:=h2
 have ho:ops[i]?=some ops[i]:=Array.getElem?_eq_getElem h1
 rw [ho] at h3
 simp only [Option.map_some,Option.getD_some,Array.all_eq_true_iff_forall_mem] at h3
 refine ⟨h1,by simpa using h2,ops[i],ho,fun e he hb=>?_⟩
 have:=h3 e (Array.mem_toList_iff.1 he)
 rw [hb] at this
 simpa using this
theorem mem_ready {listed:Array Bool} {i:Nat} {o:Oper} (h1:ops[i]?=some o) (h2:listed.getD i true=false) (h3:∀ e ∈ o.after.toList,Region.binds .any e=true→listed.getD e.on false=true):i ∈ Region.ready .any ops listed:=by
 unfold Region.ready
 rw [List.mem_filter,List.mem_range]
 refine ⟨(Array.getElem?_eq_some_iff.1 h1).1,?_⟩
 rw [Bool.and_eq_true,h2,h1]
 simp only [Option.map_some,Option.getD_some,Array.all_eq_true_iff_forall_mem]
 refine ⟨rfl,fun e he=>?_⟩
 cases hb:Region.binds .any e with
 | false=>rfl
 | true=>rw [h3 e (Array.mem_toList_iff.2 he) hb]; rfl
theorem sim_all (hP:NoCount P) (hR:RecOk P r) (S:StatD P ops.toList (Region.before ops).toList ord) (R:RunD P r n ops.toList (Region.before ops).toList [] ord M tp Ap vp) (hl:(Ap 0).lim≤(Ap 0).next) {ex:Ex} {t':Tm} {A':AW} (E:EndD P r n ops.toList ord M tp Ap ex t' A')
  (hok:∀ o ∈ ops.toList,dstOk n o.dst=true) {x:Ctx} {a0:Av} {cs:List Frame} {k:List Item} :
  ∀ (fuel t:Nat) (listed:Array Bool) (D:List Nat) (q:Nat) (φ:Inj) (w:World) (tS:Tm) (a:Av),SimD P n lo ops ord M tp Ap vp φ0 w0 ds D q φ w tS a→(∀ j,listed.getD j false=decide (j ∈ D))→listed.size=ops.size→D.Nodup→(∀ j ∈ D,j < ops.size)→D.length + fuel=ops.size →
   CtxR φ x a0.kind a0.roundOf cs→a0.Like a→GoalD P n lo ops Ap φ0 w0 ds ex t' A' x a0 cs k a w (Region.linearise.go .any ops fuel t listed [])
 | 0,t,listed,D,q,φ,w,tS,a,H,hL,hsz,hnd,hsub,hlen,hx,hla=>H.end_ S R E (fun j hj=>nodup_all hnd hsub (by omega) hj) hx hla
 | fuel + 1,t,listed,D,q,φ,w,tS,a,H,hL,hsz,hnd,hsub,hlen,hx,hla=>by
  have hun:∀ i,i < ops.size→(listed.getD i true=false ↔ i ∉ D):=fun i hi=>by
   have h1:listed.getD i true=listed.getD i false:=by
    simp only [Array.getD_eq_getD_getElem?,Array.getElem?_eq_getElem (show i < listed.size by omega),Option.getD_some]
   rw [h1,hL]
   simp
  simp only [Region.linearise.go]
  change GoalD P n lo ops Ap φ0 w0 ds ex t' A' x a0 cs k a w (match (Region.ready .any ops listed)[t % (Region.ready .any ops listed).length]? with
   | some i=>Region.linearise.go .any ops fuel (t / (Region.ready .any ops listed).length) (listed.setIfInBounds i true) [i]
   | none=>[].reverse)
  cases hi:(Region.ready .any ops listed)[t % (Region.ready .any ops listed).length]? with
  | none =>
   have hnil:Region.ready .any ops listed=[]:=by
    cases hr:Region.ready .any ops listed with
    | nil=>rfl
    | cons x xs =>
     rw [hr] at hi
     have hlt:t % (x::xs).length < (x::xs).length:=Nat.mod_lt _ (by simp)
     simp at hi
     simp at hlt
     omega
   refine H.end_ S R E (fun j hj=>?_) hx hla
   have key:∀ (p j:Nat),ord[p]?=some j→j ∈ D:=by
    intro p
    induction p using Nat.strongRecOn with
    | _ p ih =>
     intro j hp
     apply Classical.byContradiction
     intro hjD
     obtain ⟨o,ho⟩:=S.op p j hp
     have ho':ops[j]?=some o:=by rw [← Array.getElem?_toList]; exact ho
     have:j ∈ Region.ready .any ops listed:=mem_ready ho' ((hun j (Array.getElem?_eq_some_iff.1 ho').1).2 hjD) fun e he hb=>by
      obtain ⟨p',g1,g2⟩:=S.edge p j o e hp ho he hb
      rw [hL]
      exact decide_eq_true (ih p' g1 e.on g2)
     rw [hnil] at this
     cases this
   obtain ⟨p,hp⟩:=S.surj j ops[j] (by rw [Array.getElem?_toList]; exact Array.getElem?_eq_getElem hj)
   exact key p j hp
  | some i =>
   obtain ⟨h1,h2,o,ho,h3⟩:=ready_mem (List.mem_of_getElem? hi)
   have hiD:=(hun i h1).1 h2
   simp only []
   rw [linearise_go_acc,List.reverse_singleton,List.singleton_append]
   refine sim_step hP hR S R hl E hok H hx hla ho hiD (fun e he hb=>?_) fun q' φ' w' tS' a' H' hx' hla'=>?_
   ·have:=h3 e he hb
    rw [hL] at this
    exact of_decide_eq_true this
   ·refine sim_all hP hR S R hl E hok fuel _ _ (i::D) q' φ' w' tS' a' H' (fun j=>?_) (by simpa using hsz) (List.nodup_cons.2 ⟨hiD,hnd⟩) (fun j hj=>?_) (by simp only [List.length_cons]; omega) hx' hla'
    ·have hjL:=hL j
     simp only [Array.getD_eq_getD_getElem?] at hjL ⊢
     rw [Array.getElem?_setIfInBounds]
     by_cases e:i=j
     ·subst e
      rw [if_pos rfl,if_pos (by omega)]
      simp
     ·rw [if_neg e,hjL]
      simp [List.mem_cons,Ne.symm e]
    ·rcases List.mem_cons.1 hj with h | h
     ·exact h ▸ h1
     ·exact hsub j h
end sim
theorem draw_step (hm:P.follows .mixedOrders=true) {a:Av} {id:Nat} {ops:Array Oper} {k:List Item} {cs:List Frame} :
  Steps P (lone (a.at (.code (.region id ops true)::k)) cs w) (lone (a.at (.inRegion ops (Region.linearise .any ops (w.tape w.drawn (.order a.fn id)))::k)) cs { w with drawn:=w.drawn + 1 }):=by
 have e:∀ t,Region.schedule (P.follows .mixedOrders) ops t=Region.linearise .any ops t:=fun t=>by simp only [Region.schedule,hm,Bool.true_or,if_true]
 refine go1 ?_
 rw [← e]
 simp [stepG,stepG.exec,Av.at,choose,Sem.run,Question.forced,Question.cut]
theorem drawn_ok (hP:NoCount P) (hm:P.follows .mixedOrders=true):DrawnOk P:=by
 intro r hR n id ops φ A w lo t ds x a cs k hM hH hlo hx
 show RcOk P n lo φ A w (isPan x) a cs (a.at (.code (.region id ops true)::k)) k ((drawC P n ops.toList (Region.before ops).toList).val r t ds A x)
 unfold drawC
 simp only
 generalize hord:ordOf P ops.toList (Region.before ops).toList=ord
 cases hd:(drawOk P ops.toList (Region.before ops).toList ord && ops.toList.all (fun o=>dstOk n o.dst)) with
 | false=>exact trivial
 | true =>
  rw [Bool.and_eq_true] at hd
  have S:=stat_of hd.1
  have hok:∀ o ∈ ops.toList,dstOk n o.dst=true:=List.all_eq_true.1 hd.2
  show RcOk P n lo φ A w (isPan x) a cs (a.at (.code (.region id ops true)::k)) k ((drawS P n ops.toList (Region.before ops).toList [] ord).val r t ds A x)
  cases hq:(drawS P n ops.toList (Region.before ops).toList [] ord).val r t ds A x with
  | fail=>exact trivial
  | ok ex t' ds' A' x' =>
   obtain ⟨rfl,rfl,M,tp,Ap,vp,e1,e2,R,E⟩:=drawS_run ord [] t ds A x ex t' ds' A' x' hq
   subst e1 e2
   have hM1:MR P φ (Ap 0) { w with drawn:=w.drawn + 1 }:=hM.drawn _
   have hE1:Ext φ (Ap 0) w φ (Ap 0) { w with drawn:=w.drawn + 1 }:=Ext.drawn w _
   have hH1:Held φ { w with drawn:=w.drawn + 1 } n lo (tp 0) ds' a:=hH.ext hE1
   have Hm:MidD P ops ord M tp Ap φ { w with drawn:=w.drawn + 1 } [] 0 φ { w with drawn:=w.drawn + 1 } :=
    ⟨Nat.zero_le _,fun p i o h=>absurd h (Nat.not_lt_zero _),hM1,Ext.refl _ _ _,fun p p' h1 h2=>by rw [Nat.le_zero.1 h2,Nat.le_zero.1 (Nat.le_trans h1 h2)]; exact Nat.le_refl _,fun p i o bk f h=>absurd h (Nat.not_lt_zero _)⟩
   have hend:M=ord.length∨∃ i o,ord[M]?=some i∧ops.toList[i]?=some o∧isAct P o.op=true:=E.imp (fun h=>h.2.1) fun ⟨v,i,o,_,g1,g2,_,g3,_⟩=>⟨i,o,g1,g2,g3⟩
   obtain ⟨q',H⟩:=SimD.at_ S R hM.lim hend Hm (fun i o e h=>by cases h) (fun i p h=>by cases h) hH1 (fun p i o d _ _ h=>by cases h) (fun d _=>rfl)
   obtain ⟨φ',w',a',fr',g1,g2,g3,g4,g5,g6,g7⟩:=sim_all hP hR S R hM.lim E hok (cs:=cs) (k:=k) ops.size (w.tape w.drawn (.order a.fn id)) (Array.replicate ops.size false) [] q' φ _ (tp 0) a H
    (fun j=>by simp only [Array.getD_eq_getD_getElem?,Array.getElem?_replicate,List.not_mem_nil,decide_false]; split <;> rfl) (by simp) List.nodup_nil (fun j hj=>by cases hj) (by simp) (hx.mono hE1.le) (.refl _)
   exact ⟨φ',w',a',cs,fr',g1,hE1.trans g2,g3,g4,g5,⟨.same _ _,rfl⟩,g6,(draw_step hm).trans g7⟩
end Go.Sh
namespace Go.Sh
open Go
variable {P:Program} {φ:Inj} {A:AW} {w:World}
theorem calls_of (hP:NoCount P) (hm:P.follows .mixedOrders=true) {ov:Ov} (hO:OvOk P ov) (hM:MR P φ A w) {f:FuncId} {args args':List Value} (ha:LR φ args args') {m:Nat} {v:Value} {A':AW} {x':Ctx} (h:(run P ov m).call f args A .none=.ok (.ret v) A' x') :
  Calls P f ⟨args'⟩ w fun e w'=>∃ φ' v',e=.returned v'∧VR φ' v v'∧MR P φ' A' w'∧Ext φ A w φ' A' w':=by
 intro cs
 have hc:=(run_ok hP (drawn_ok hP hm) hO m).call f φ A w args args' .none .normal cs hM ha (.none _)
 rw [h] at hc
 obtain ⟨φ',w',cs',fr',h1,h2,h3,h4,h5,h6⟩:=hc
 have hcs:cs'=cs:=h4.1.eq
 subst hcs
 obtain ⟨g1,g2,g3,fn,g4,g5,v',g6,g7⟩:=h5
 exact ⟨.returned v',w',fr',⟨φ',v',rfl,g6,h1,h2⟩,h6,g1,g5,g3,g2,fn,by rw [g1]; exact g4,g7⟩
theorem Ext.keeps {φ':Inj} {A':AW} {w':World} (e:Ext φ A w φ' A' w') (hl:A.next≤A.lim) (hf:∀ b,A.next≤b→φ b=none) {c:Nat} (hc:c < w.heap.size):w'.heap[c]?=w.heap[c]? :=
 e.frame c hc fun b n s d hb=>by
  rcases Nat.lt_or_ge b A.next with h | h
  ·omega
  ·rw [hf b h] at hb; cases hb
structure Stays (w w':World):Prop where
 os:w'.os=w.os
 output:w'.output=w.output
 size:w.heap.size≤w'.heap.size
 old:∀ c:Nat,c < w.heap.size→w'.heap[c]?=w.heap[c]?
theorem Stays.refl (w:World):Stays w w:=⟨rfl,rfl,Nat.le_refl _,fun _ _=>rfl⟩
theorem Stays.trans {w w' w'':World} (h:Stays w w') (k:Stays w' w''):Stays w w'' :=
 ⟨k.os.trans h.os,k.output.trans h.output,Nat.le_trans h.size k.size,fun c hc=>(k.old c (Nat.lt_of_lt_of_le hc h.size)).trans (h.old c hc)⟩
theorem Stays.kept {w w':World} (h:Stays w w') (may:MemPlace→Prop):w.keptBut w' may:=by
 refine ⟨h.os,h.output,fun i hi=>?_⟩
 rw [h.old i hi]
 cases hq:w.heap[i]? with
 | none=>rfl
 | some o=>cases o <;> simp
theorem Stays.frozen {w w':World} (h:Stays w w') {a:Addr} (ha:a.block < w.heap.size):w'.frozen? a=w.frozen? a:=by
 unfold World.frozen?
 rw [h.old _ ha]
theorem NoCount.of (h:(P.funcs.toList.all fun fn=>!(fn.name == "runtime.NumGoroutine"))=true):NoCount P:=fun f fn hf=>by
 have:=List.all_eq_true.1 h fn (List.mem_of_getElem? (by rw [Array.getElem?_toList]; exact hf))
 simpa using this
abbrev LaidV:=Nat × List Value × TypeId
noncomputable def startH:List LaidV→T AObj
 | []=>.leaf
 | x::l=>(startH l).put x.1 (some (.cells x.2.1 x.2.2 true))
noncomputable def startA (n:Nat) (l:List LaidV):AW:=⟨startH l,n,n⟩
theorem startH_get:∀ (l:List LaidV) (b:Nat) (o:AObj),(startH l).get b=some o→∃ x ∈ l,x.1=b∧o=.cells x.2.1 x.2.2 true
 | [],b,o,h=>by simp [startH,get_leaf] at h
 | x::l,b,o,h=>by
  rw [startH,get_put] at h
  by_cases e:b=x.1
  ·rw [if_pos e] at h
   exact ⟨x,List.mem_cons_self ..,e.symm,(Option.some.inj h).symm⟩
  ·rw [if_neg e] at h
   obtain ⟨y,h1,h2,h3⟩:=startH_get l b o h
   exact ⟨y,List.mem_cons_of_mem _ h1,h2,h3⟩
def LaidOk (P:Program) (W:World) (l:List LaidV):Prop:=∀ x ∈ l,x.1 < P.globals.size∧∃ cc,W.heap[x.1]?=some (.cells ⟨cc⟩ x.2.2)∧∀ φ,LR φ x.2.1 cc
noncomputable def startφ (P:Program) (l:List LaidV):Inj:=fun b=>if b < P.globals.size then (match (startH l).get b with | some (.cells c e _)=>some (.at_ b c.length ((szOf P e).getD 0) 0) | _=>some .dead) else none
theorem start_MR {W:World} {l:List LaidV} (h:LaidOk P W l):MR P (startφ P l) (startA P.globals.size l) W:=by
 have hat:∀ b c n s d,startφ P l b=some (.at_ c n s d)→c=b∧d=0∧∃ x ∈ l,x.1=b∧(startH l).get b=some (.cells x.2.1 x.2.2 true)∧n=x.2.1.length∧s=(szOf P x.2.2).getD 0:=fun b c n s d hb=>by
  unfold startφ at hb
  split at hb
  ·cases hg:(startH l).get b with
   | none=>rw [hg] at hb; cases hb
   | some o =>
    obtain ⟨x,h1,h2,h3⟩:=startH_get l b o hg
    rw [hg] at hb
    subst h3
    simp only [Option.some.injEq,Ent.at_.injEq] at hb
    obtain ⟨rfl,rfl,rfl,rfl⟩:=hb
    exact ⟨rfl,rfl,x,h1,h2,rfl,rfl,rfl⟩
  ·cases hb
 refine ⟨fun b c n s d hb=>?_,fun b hb=>?_,fun b b' c n s d n' s' d' hb hb'=>?_,fun b hb=>?_,fun g hg=>?_,Nat.le_refl _⟩
 ·obtain ⟨rfl,rfl,x,h1,h2,h3,rfl,rfl⟩:=hat b c n s d hb
  obtain ⟨_,cc,h4,h5⟩:=h x h1
  rw [h2] at h4
  refine ⟨_,_,h3,h4,cc,x.2.2,(0,0),rfl,⟨rfl,(h5 (startφ P l)).length.symm,rfl,by simp,?_,fun e=>Bool.noConfusion e,fun _=>Nat.dvd_zero _⟩⟩
  have:=(h5 (startφ P l)).length
  simp [this]
  exact h5 _
 ·unfold startφ at hb
  split at hb
  ·show (startH l).get b=none
   cases hg:(startH l).get b with
   | none=>rfl
   | some o =>
    obtain ⟨x,_,_,h3⟩:=startH_get l b o hg
    rw [hg] at hb
    subst h3
    cases hb
  ·cases hb
 ·intro _
  rw [← (hat _ _ _ _ _ hb).1,← (hat _ _ _ _ _ hb').1]
 ·unfold startφ
  have:P.globals.size≤b:=hb
  rw [if_neg (by omega)]
 ·unfold startφ
  rw [if_pos hg]
  split
  ·exact .inr ⟨_,_,rfl⟩
  ·exact .inl rfl
end Go.Sh
namespace Go.Sh
open Go Go.ChangeShapes
variable {P:Program}
def RowOf (P:Program) (g:Nat) (n:Nat) (t:TypeId):Prop:=∃ zero,((begin P (fun _ _=>0) default).world.heap[g]?).bind Obj.row?=some (zero,t)∧zero.size=n
theorem RowOf.of {g n:Nat} {t:TypeId} (h:(((begin P (fun _ _=>0) default).world.heap[g]?).bind Obj.row?).map (fun x=>(x.1.size,x.2))=some (n,t)):RowOf P g n t:=by
 obtain ⟨⟨z,u⟩,h1,h2⟩:=Option.map_eq_some_iff.1 h
 simp only [Prod.mk.injEq] at h2
 obtain ⟨rfl,rfl⟩:=h2
 exact ⟨z,h1,rfl⟩
theorem post_stays {H:Type} {enc:TypeId × Value→H} {f:Func} {s:ChangeSpec} {apart fresh handsOn again:Bool} {W W':World} {args:Array Value} {v:Value} {ds gs:List (DataW H)} {before pa pv:List MemPlace}
  (hW:DataW.Whole enc P f.params.toList s.vars apart W args.toList ds gs before)
  (hres:∀ (b:Nat) (sp:Nat→Bool) (hd:Bool),DataW.TrodAll enc P W' b sp hd f.resultTypes.toList (v.resultList f.resultTypes.size) (s.fn H (ds++gs)).results [])
  (hargs:∀ sp:Nat→Bool,(∀ p ∈ before,sp p.block=true)→DataW.TrodAll enc P W' 0 sp true f.params.toList args.toList (s.fn H (ds++gs)).args pa)
  (hvars:∀ sp:Nat→Bool,(∀ p ∈ before,sp p.block=true)→DataW.TrodVars enc P W' sp s.vars (s.fn H (ds++gs)).vars pv)
  (hps:before=pa++pv) (hk:Stays W W')
  (hok:∀ (j:Nat) (t:TypeId) (r:Value),f.resultTypes[j]?=some t→(v.resultList f.resultTypes.size)[j]?=some r→Value.okWide P W' .any 0 t r) :
  s.post enc P f apart fresh handsOn again W args v W':=by
 have hold:∀ p ∈ before,(fun b=>decide (b < W.heap.size)) p.block=true:=fun p hp=>by simpa using hW.lt p hp
 have hlt:∀ p ∈ before,p.block < W.heap.size:=fun p hp=>hW.lt p hp
 refine ⟨ds,gs,before,[],pa,pv,hW,hres _ _ _,hargs _ hold,hvars _ hold,World.keptBut_mono (fun p hp=>⟨hp,?_⟩) (hk.kept (· ∈ before)),fun _=>?_⟩
 ·rw [hps,List.mem_append] at hp
  exact Or.inr hp
 ·obtain ⟨_,_,_,_,_,hz,hn⟩:=hW
  refine ⟨hok,_,_,([]++pa)++pv,⟨[]++pa,pv,trodAll_append (hargs _ (fun _ _=>rfl)) (hres _ _ _),hvars _ (fun _ _=>rfl),rfl,?_,?_⟩,?_⟩
  ·intro b off hp
   have hp':MemPlace.cell b off ∈ before:=by rw [hps]; simpa using hp
   rw [hk.frozen (hlt _ hp')]
   exact hz b off hp'
  ·intro ha
   have:=hn ha
   rw [hps] at this
   simpa using this
  ·intro p hp _
   rw [hps]
   simpa using hp
end Go.Sh
namespace Go.Sh
open Go
noncomputable section
variable {P:Program} {φ:Inj} {A:AW} {w:World}
def inDom (l:List Nat):Nat→Value→Bool
 | 0,_=>false
 | n + 1,v =>
  match v with
  | .bool _=>true
  | .int _ _=>true
  | .float _ _=>true
  | .complex _ _ _=>true
  | .string _=>true
  | .nilFunc=>true
  | .nilIface=>true
  | .pointer a=>match a with | none=>true | some a=>l.contains a.block
  | .map r=>match r with | none=>true | some r=>l.contains r
  | .slice a _ _=>match a with | none=>true | some a=>l.contains a.block
  | .agg c=>allD (inDom l n) c.toList
  | .tuple c=>allD (inDom l n) c.toList
  | .iface _ v=>inDom l n v
  | .func f a b=>(match f with | .yield _=>false | _=>true) && (allD (inDom l n) a.toList && allD (inDom l n) b.toList)
  | .chan a=>a == some 0
where
 allD (f:Value→Bool):List Value→Bool
  | []=>true
  | x::xs=>bif f x then allD f xs else false
theorem allD_mem {f:Value→Bool}:∀ {l:List Value},inDom.allD f l=true→∀ v ∈ l,f v=true
 | [],_,v,hv=>by cases hv
 | x::_,h,v,hv=>by
  simp only [inDom.allD] at h
  cases hx:f x with
  | false=>rw [hx] at h; simp at h
  | true =>
   rw [hx] at h
   simp at h
   rcases List.mem_cons.1 hv with rfl | hv
   ·exact hx
   ·exact allD_mem h v hv
theorem LR_of {φ ψ:Inj}:∀ {l l':List Value},LR φ l l'→(∀ v ∈ l,∀ v',VR φ v v'→VR ψ v v')→LR ψ l l'
 | _,_,.nil,_=>.nil
 | _,_,.cons h k,f=>.cons (f _ (List.mem_cons_self ..) _ h) (LR_of k fun v hv=>f v (List.mem_cons_of_mem _ hv))
section
variable {ψ:Inj} {l:List Nat}
theorem AddrR.dom {a a':Addr} (h:AddrR φ a a') (e:ψ a.block=φ a.block):AddrR ψ a a':=by
 rcases h with h | ⟨c,n,s,d,h,h1⟩
 ·exact .inl (e.trans h)
 ·exact .inr ⟨c,n,s,d,e.trans h,h1⟩
theorem BlkR.dom {b b':Nat} (h:BlkR φ b b') (e:ψ b=φ b):BlkR ψ b b':=by
 rcases h with h | ⟨n,s,d,h⟩
 ·exact .inl (e.trans h)
 ·exact .inr ⟨n,s,d,e.trans h⟩
theorem VR.dom (hd:∀ b,l.contains b=true→ψ b=φ b):∀ (n:Nat) (v:Value),inDom l n v=true→∀ v',VR φ v v'→VR ψ v v'
 | 0,_,h,_,_=>by simp [inDom] at h
 | n + 1,v,h,v',hv=>by
  have ih:=VR.dom hd n
  cases hv with
  | bool=>exact .bool _
  | int=>exact .int _ _
  | float=>exact .float _ _
  | complex=>exact .complex _ _ _
  | string=>exact .string _
  | ptrNil=>exact .ptrNil
  | ptr h1=>exact .ptr (h1.dom (hd _ (by simpa [inDom] using h)))
  | slNil=>exact .slNil
  | sl h1 hl hc hr hx =>
   have e:=hd _ (by simpa [inDom] using h)
   exact .sl (h1.dom e) hl hc (fun es c n s d he=>hr es c n s d (e ▸ he)) hx
  | sl0 h1=>exact .sl0 (h1.dom (hd _ (by simpa [inDom] using h)))
  | mapNil=>exact .mapNil
  | map h1=>exact .map (h1.dom (hd _ (by simpa [inDom] using h)))
  | func hf hx hy =>
   simp only [inDom,Bool.and_eq_true] at h
   refine .func ?_ (LR_of hx fun v hv v'=>ih v (allD_mem h.2.1 v hv) v') (LR_of hy fun v hv v'=>ih v (allD_mem h.2.2 v hv) v')
   rcases hf with hf | ⟨l1,l2,rfl,_⟩
   ·exact .inl hf
   ·simp at h
  | nilFunc=>exact .nilFunc
  | nilIface=>exact .nilIface
  | iface t h1=>exact .iface t (ih _ (by simpa [inDom] using h) _ h1)
  | agg h1=>exact .agg (LR_of h1 fun v hv v'=>ih v (allD_mem (by simpa [inDom] using h) v hv) v')
  | tuple h1=>exact .tuple (LR_of h1 fun v hv v'=>ih v (allD_mem (by simpa [inDom] using h) v hv) v')
  | unk h1=>exact .unk h1
end
def sameL5 (x y:List Value):Bool:=sameVal.sameVals (sameVal 5) x y
def hasB (A:AW) (x:LaidV):Bool:=match A.heap.get x.1 with | some o=>(match o with | .cells c e _=>sameL5 c x.2.1 && Nat.beq e x.2.2 | _=>false) | none=>false
def hasAll (A:AW):List LaidV→Bool
 | []=>true
 | x::l=>bif hasB A x then hasAll A l else false
theorem hasAll_mem:∀ {l:List LaidV},hasAll A l=true→∀ x ∈ l,∃ ro,A.heap.get x.1=some (.cells x.2.1 x.2.2 ro)
 | [],_,x,hx=>by cases hx
 | y::l,h,x,hx=>by
  unfold hasAll at h
  cases hy:hasB A y with
  | false=>rw [hy] at h; cases h
  | true =>
   rw [hy] at h
   rcases List.mem_cons.1 hx with rfl | hx
   ·unfold hasB at hy
    cases hg:A.heap.get x.1 with
    | none=>rw [hg] at hy; cases hy
    | some o =>
     rw [hg] at hy
     cases o with
     | cells c e ro =>
      simp only [Bool.and_eq_true] at hy
      exact ⟨ro,by rw [sameVals_eq (sameVal_eq 5) hy.1,Nat.eq_of_beq_eq_true hy.2]⟩
     | _=>cases hy
   ·exact hasAll_mem h x hx
def numsOf (l:List LaidV):List Nat:=l.map (·.1)
def closedB (n:Nat) (l:List LaidV):Bool:=l.all fun x=>Nat.blt x.1 n && x.2.1.all (inDom (numsOf l) 5)
def memoOv (f0:FuncId) (args0:List Value) (l0:List LaidV) (v0:Value) (rest:Ov):Ov:=fun f args A =>
 bif Nat.beq f f0 then (bif sameL5 args args0 && hasAll A l0 then some (.ok (.ret v0) A .none) else rest f args A) else rest f args A
def resIs (v:Value) (o:RO):Bool:=match o with | .ok (.ret u) _ _=>sameVal 5 u v | _=>false
theorem resIs_some {v:Value} {o:RO} (h:resIs v o=true):∃ A x,o=.ok (.ret v) A x:=by
 unfold resIs at h
 split at h
 ·rename_i u A x
  exact ⟨A,x,by rw [sameVal_eq 5 _ _ h]⟩
 ·cases h
theorem ground_any {φ ψ:Inj}:∀ (n:Nat) (v:Value),groundC n v=true→∀ v',VR φ v v'→VR ψ v v'
 | 0,v,h,_,_=>by simp [groundC] at h
 | n + 1,v,h,v',hv=>by
  have ih:=ground_any (φ:=φ) (ψ:=ψ) n
  cases hv with
  | bool=>exact .bool _
  | int=>exact .int _ _
  | float=>exact .float _ _
  | complex=>exact .complex _ _ _
  | string=>exact .string _
  | ptrNil=>exact .ptrNil
  | ptr h1=>simp [groundC] at h
  | slNil=>exact .slNil
  | sl h1 hl hc hr hx=>simp [groundC] at h
  | sl0 h1=>simp [groundC] at h
  | mapNil=>exact .mapNil
  | map h1=>simp [groundC] at h
  | func hf hx hy=>simp [groundC] at h
  | nilFunc=>exact .nilFunc
  | nilIface=>exact .nilIface
  | iface t h1=>exact .iface t (ih _ (by simpa [groundC] using h) _ h1)
  | agg h1=>exact .agg (LR_of h1 fun v hv v'=>ih v (groundC_all (by simpa [groundC] using h) v hv) v')
  | tuple h1=>exact .tuple (LR_of h1 fun v hv v'=>ih v (groundC_all (by simpa [groundC] using h) v hv) v')
  | unk h1=>exact .unk h1
theorem startH_mem:∀ {l:List LaidV} {b:Nat},b ∈ numsOf l→∃ o,(startH l).get b=some o
 | [],b,h=>by cases h
 | x::l,b,h=>by
  rw [startH]
  by_cases e:b=x.1
  ·exact ⟨_,by rw [get_put,if_pos e]⟩
  ·rcases List.mem_cons.1 h with h | h
   ·exact absurd h e
   ·obtain ⟨o,ho⟩:=startH_mem h
    exact ⟨o,by rw [get_put,if_neg e]; exact ho⟩
def memoφ (P:Program) (l0:List LaidV) (φ:Inj):Inj:=fun b=>if b ∈ numsOf l0 then φ b else if b < P.globals.size then some .dead else none
theorem memo_MR (hM:MR P φ A w) {l0:List LaidV} {n0:Nat} (hA:hasAll A l0=true) (hc:closedB n0 l0=true) (hg:P.globals.size≤n0):MR P (memoφ P l0 φ) (startA n0 l0) w:=by
 have hc':∀ x ∈ l0,x.1 < n0∧∀ v ∈ x.2.1,inDom (numsOf l0) 5 v=true:=fun x hx=>by
  have:=(List.all_eq_true.1 hc) x hx
  rw [Bool.and_eq_true] at this
  exact ⟨by simpa [Nat.blt_eq] using this.1,List.all_eq_true.1 this.2⟩
 have hin:∀ b,b ∈ numsOf l0→memoφ P l0 φ b=φ b:=fun b hb=>if_pos hb
 have hdom:∀ b,(numsOf l0).contains b=true→memoφ P l0 φ b=φ b:=fun b hb=>hin b (by simpa using hb)
 have hat:∀ b c n s d,memoφ P l0 φ b=some (.at_ c n s d)→b ∈ numsOf l0∧φ b=some (.at_ c n s d):=fun b c n s d hb=>by
  unfold memoφ at hb
  split at hb
  ·exact ⟨by assumption,hb⟩
  ·split at hb <;> cases hb
 refine ⟨fun b c n s d hb=>?_,fun b hb=>?_,fun b b' c n s d n' s' d' hb hb' hlb=>absurd (show n0≤b from hlb) (by
  obtain ⟨x,hx,hxb⟩:=List.mem_map.1 (hat _ _ _ _ _ hb).1
  have:=(hc' x hx).1
  omega),fun b hb=>?_,fun g hgl=>?_,Nat.le_refl _⟩
 ·obtain ⟨h1,h2⟩:=hat b c n s d hb
  obtain ⟨o,ho⟩:=startH_mem h1
  obtain ⟨x,hx,rfl,rfl⟩:=startH_get l0 b o ho
  obtain ⟨ro,h3⟩:=hasAll_mem hA x hx
  obtain ⟨o1,oc,h4,h5,h6⟩:=hM.obj _ _ _ _ _ h2
  rw [h3] at h4
  cases h4
  obtain ⟨cc,e',fz,rfl,h7⟩:=h6
  exact ⟨_,_,ho,h5,cc,e',fz,rfl,⟨h7.elem,h7.size,h7.unit,h7.fits,LR_of h7.cells fun v hv v'=>VR.dom hdom 5 v ((hc' x hx).2 v hv) v',fun e=>Bool.noConfusion e,fun e=>Bool.noConfusion e⟩⟩
 ·show (startH l0).get b=none
  by_cases h1:b ∈ numsOf l0
  ·rw [hin b h1] at hb
   obtain ⟨x,hx,rfl⟩:=List.mem_map.1 h1
   obtain ⟨ro,h3⟩:=hasAll_mem hA x hx
   rw [hM.dead _ hb] at h3
   cases h3
  ·cases hq:(startH l0).get b with
   | none=>rfl
   | some o =>
    obtain ⟨x,hx,rfl,_⟩:=startH_get l0 b o hq
    exact absurd (List.mem_map.2 ⟨x,hx,rfl⟩) h1
 ·have hb':n0≤b:=hb
  unfold memoφ
  rw [if_neg,if_neg (by omega)]
  intro h1
  obtain ⟨x,hx,rfl⟩:=List.mem_map.1 h1
  have:=(hc' x hx).1
  omega
 ·by_cases h1:g ∈ numsOf l0
  ·rw [hin g h1]; exact hM.globals g hgl
  ·unfold memoφ
   rw [if_neg h1,if_pos hgl]
   exact .inl rfl
theorem memo_ok (hP:NoCount P) (hm:P.follows .mixedOrders=true) {ov:Ov} (hO:OvOk P ov) {f0:FuncId} {args0:List Value} {l0:List LaidV} {v0:Value} {n0 m:Nat} (fact:resIs v0 ((run P ov m).call f0 args0 (startA n0 l0) .none)=true)
  (hc:closedB n0 l0=true) (ha:inDom.allD (inDom (numsOf l0) 5) args0=true) (hg:P.globals.size≤n0) (hv:groundC 3 v0=true) {rest:Ov} (hrest:OvOk P rest):OvOk P (memoOv f0 args0 l0 v0 rest):=by
 intro f φ A w args args' cs o A' x' hM hA hov
 unfold memoOv at hov
 cases hf:Nat.beq f f0 with
 | false=>rw [hf] at hov; exact hrest f φ A w args args' cs o A' x' hM hA hov
 | true =>
  rw [hf] at hov
  simp only [cond_true] at hov
  cases hq:(sameL5 args args0 && hasAll A l0) with
  | false=>rw [hq] at hov; exact hrest f φ A w args args' cs o A' x' hM hA hov
  | true =>
   rw [hq] at hov
   simp only [cond_true,Option.some.injEq,RO.ok.injEq] at hov
   obtain ⟨rfl,rfl,rfl⟩:=hov
   rw [Bool.and_eq_true] at hq
   have ef:=Nat.eq_of_beq_eq_true hf
   have ea:=sameVals_eq (sameVal_eq 5) hq.1
   subst ef ea
   have hM0:=memo_MR hM hq.2 hc hg
   have hdom:∀ b,(numsOf l0).contains b=true→memoφ P l0 φ b=φ b:=fun b hb=>if_pos (by simpa using hb)
   have hA0:LR (memoφ P l0 φ) args args':=LR_of hA fun v hv v'=>VR.dom hdom 5 v (allD_mem ha v hv) v'
   obtain ⟨A1,x1,hrun⟩:=resIs_some fact
   have hcall:=(run_ok hP (drawn_ok hP hm) hO m).call f (memoφ P l0 φ) (startA n0 l0) w args args' .none .normal cs hM0 hA0 (.none _)
   rw [hrun] at hcall
   obtain ⟨φ1,w1,cs1,fr1,g1,g2,g3,g4,g5,g6⟩:=hcall
   have hcs:cs1=cs:=g4.1.eq
   subst hcs
   have hold:∀ c,c < w.heap.size→w1.heap[c]?=w.heap[c]?:=fun c hc'=>g2.keeps (Nat.le_refl _) (fun b hb=>hM0.fresh b hb) hc'
   refine ⟨rfl,φ,w1,fr1,⟨fun b c n s d hb=>?_,hM.dead,hM.one,hM.fresh,hM.globals,hM.lim⟩,⟨φ.le_refl,rfl,Nat.le_refl _,fun _ _=>⟨rfl,rfl⟩,g2.size,fun c hc' _=>hold c hc',fun _ _ _ _ _ h=>.inl h,fun _ _ h=>⟨rfl,h⟩,g2.os,g2.tape,g2.output⟩,?_,g6⟩
   ·obtain ⟨o1,oc,k1,k2,k3⟩:=hM.obj b c n s d hb
    exact ⟨o1,oc,k1,by rw [hold c (lt_of_heap k2)]; exact k2,k3⟩
   ·obtain ⟨q1,q2,q3,fn,q4,q5,v',q6,q7⟩:=g5
    exact ⟨q1,q2,q3,fn,q4,q5,v',ground_any 3 v0 hv v' q6,q7⟩
end
end Go.Sh
namespace Go.Sh
open Go Go.ChangeShapes
noncomputable section
variable {P:Program} {φ:Inj} {A:AW} {w:World}
end
end Go.Sh
