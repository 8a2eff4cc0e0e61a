/- Part of a proof: see the text with the theorem. -/
import Derived.Test.YtiokkkjahkhbfaaSiC
import Derived.Orders
set_option linter.all false
namespace Go.Sh
open Go
variable {P:Program} {φ:Inj} {A:AW} {w:World}
theorem MR.loose (hM:MR P φ A w) (o:Obj):MR P φ A (w.alloc o)∧Ext φ A w φ A (w.alloc o)∧∀ b n s d,φ b ≠ some (.at_ w.heap.size n s d):=by
 refine ⟨⟨fun b c n s d hb=>?_,hM.dead,hM.one,hM.fresh,hM.globals,hM.lim⟩,⟨φ.le_refl,rfl,Nat.le_refl _,fun _ _=>⟨rfl,rfl⟩,by show w.heap.size≤(w.heap.push o).size; simp,fun c hc _=>push_old w o hc,fun _ _ _ _ _ h=>.inl h,fun _ _ h=>⟨rfl,h⟩,rfl,rfl,rfl⟩,fun b n s d hb=>?_⟩
 ·obtain ⟨o1,oc,h1,h2,h3⟩:=hM.obj b c n s d hb
  exact ⟨o1,oc,h1,by rw [push_old w o (lt_of_heap h2)]; exact h2,h3⟩
 ·obtain ⟨o1,oc,h1,h2,h3⟩:=hM.obj b _ n s d hb
  have:=lt_of_heap h2
  omega
theorem rangeFunc_ok (hP:NoCount P) {r:Rec} (hR:RecOk P r) (n:Nat) (f:Operand) (params:Array Tmp) (assign body:Code) (hc:constOk P f=true) (hp:∀ d ∈ params.toList,dstOk n (some d)=true) :
  DoesOk P n [.code (.rangeFunc f params assign body)] fun t ds w x=>rangeB P n r ((evS f).val t) params.toList assign body t ds w x:=by
 intro φ A w lo t ds x a cs k hM hH hlo hx
 show RcOk P n lo φ A w (isPan x) a cs (a.at ([.code (.rangeFunc f params assign body)]++k)) k (rangeB P n r ((evS f).val t) params.toList assign body t ds A x)
 unfold rangeB
 cases hrx:isRound x with
 | true=>exact trivial
 | false =>
  have hro:a.roundOf=none:=by
   rcases ctx_inv hx with ⟨_,_,h⟩ | rfl | ⟨_,_,h,_⟩ | ⟨_,_,_,_,_,_,_,h,_⟩
   ·exact h
   ·cases hrx
   ·exact h
   ·exact h
  simp only [cond_false]
  -- the block of its deferred calls, and the loop
  obtain ⟨m1,m2,m3⟩:=hM.loose (.deferred (some []))
  generalize hL:({ state:=.ready,pending:=none,fn:=a.fn,tmps:=a.tmps,params,assign,body,defers:=w.heap.size }:Loop)=L
  have hLR:LoopR φ ⟨n,t,params.toList,assign,body,none,.ready⟩ L:=by
   rw [← hL]; exact ⟨rfl,rfl,rfl,rfl,rfl,hH.tmps,hp⟩
  obtain ⟨n1,n2,n3⟩:=m1.add (o:=.loop ⟨n,t,params.toList,assign,body,none,.ready⟩) (oc:=.loop L) (n:=0) (s:=0) ⟨L,rfl,hLR⟩
  generalize hl:(w.alloc (.deferred (some []))).heap.size=l at n1 n2 n3
  generalize hw1:(w.alloc (.deferred (some []))).alloc (.loop L)=w1 at n1 n2
  generalize hA1:A.add (.loop ⟨n,t,params.toList,assign,body,none,.ready⟩)=A1 at n1 n2
  generalize hφ1:φ.add A.next (.at_ l 0 0 0)=φ1 at n1 n2 n3
  have hE1:Ext φ A w φ1 A1 w1:=m2.trans n2
  have hbl:BlkR φ1 A.next l:=.inr ⟨0,0,0,by rw [← hφ1]; simp [Inj.add]⟩
  have henterLoop:(Instr.enterLoop a.fn a.tmps params assign body none).run P w=.ok (l,[{ target:=.collected w.heap.size,args:=#[] }]) w1:=by
   rw [← hw1,← hl,← hL]
   simp [Instr.enterLoop]
  -- the frame that calls
  generalize ha':({ a with defers:={ target:=.collected w.heap.size,args:=#[] }::a.defers }:Av)=a'
  have hlike:a.Like a':=by rw [← ha']; exact ⟨rfl,rfl,rfl⟩
  have hH':Held φ1 w1 n lo t ds a':=by
   obtain ⟨q1,rs,q2,q3,q4,q5⟩:=hH
   rw [← ha']
   refine ⟨q1.mono hE1.le,w.heap.size::rs,.mark _ (q2.mono hE1.le),List.nodup_cons.2 ⟨fun h=>?_,q3⟩,fun q hq=>?_,fun h=>absurd hro h⟩
   ·have:=lt_of_heap (q4 _ h).2.2
    omega
   ·rcases List.mem_cons.1 hq with rfl | hq
    ·exact ⟨hlo,Loose.ext (A:=A) (A':=A1) ⟨m3,push_same w _⟩ n2⟩
    ·exact ⟨(q4 q hq).1,(q4 q hq).2.ext hE1⟩
  have hev:=evS_ok n1 (fr:=a'.at (.inRangeFunc l::k)) hH'.tmps f hc
  have harg:LR φ1 [.func (.yield A.next) #[] #[]] [.func (.yield l) #[] #[]]:=.cons (.func (.inr ⟨_,_,rfl,rfl,hbl⟩) .nil .nil) .nil
  have hop:=callV_ok hP n1 hev harg
  have hA1n:A.next=A.next:=rfl
  have hst0:∀ {f':FuncId} {args':Array Value},((do let d ← Deferred.ofValue ((a'.at (.inRangeFunc l::k)).eval f) ⟨[.func (.yield l) #[] #[]]⟩; invoke d.target d.args:Sem Next).run P w1)=.ok (.enter f' args') w1 →
    Steps P (lone (a.at ([.code (.rangeFunc f params assign body)]++k)) cs w) (lone (Frame.enter P f' args' .normal) (a'.at (.inRangeFunc l::k)::cs) w1):=by
   intro f' args' hrun
   refine go1 ?_
   rw [← ha'] at hrun ⊢
   simp only [Av.at,hro] at hrun
   have hargs:∀ fr:Frame,Array.map fr.eval #[Operand.const (Value.func (Fn.yield l) #[] #[])]=⟨[Value.func (Fn.yield l) #[] #[]]⟩:=fun fr=>by simp [Frame.eval]
   simp only [stepG,stepG.exec,Av.at,List.cons_append,List.nil_append,hro,Sem.runT_eq,henterLoop,GStep.bare_after,stepG.apply,resolve,Sem.run_bind,hargs,Sem.run_pure,Result.andThen_ok] at hrun ⊢
   simp only [hrun,if_true]
   rfl
  have hst0':=@hst0
  clear hst0
  show RcOk P n lo φ A w (isPan x) a cs (a.at ([.code (.rangeFunc f params assign body)]++k)) k (rangeN r A.next t ds x (callV P A1 ((evS f).val t) [.func (.yield A.next) #[] #[]]))
  cases hy:callV P A1 ((evS f).val t) [.func (.yield A.next) #[] #[]] with
  | enter g args A2 =>
   rw [hy] at hop
   obtain ⟨rfl,args',h3,h4⟩:=hop
   have hst:=hst0' h3
   have hcall:=call_back hR n1 g h4 (a'.at (.inRangeFunc l::k)) cs
   simp only [rangeN]
   cases hq:r.call g args A2 .none with
   | fail=>exact trivial
   | ok out A3 x3 =>
    rw [hq] at hcall
    cases out with
    | panic v =>
     obtain ⟨φ3,w3,v',e1,e2,e3,e4⟩:=hcall
     exact ⟨φ3,w3,a',cs,_,e1,hE1.trans e2,(hH'.ext e2).weak,hlike,hx.mono (hE1.trans e2).le,⟨.same _ _,rfl⟩,⟨_,v',rfl,e3,fun _ _ _ _ _ h=>by cases h⟩,hst.trans e4⟩
    | ret v =>
     obtain ⟨φ3,w3,v',e1,e2,e3,e4⟩:=hcall
     simp only [rangeK]
     have hbl3:=hbl.mono e2.le
     have hfin:(a'.at (.inRangeFunc l::k)).finish v'=a'.at (.endRangeFunc l::k):=rfl
     rw [hfin] at e4
     unfold loopD
     cases hlp:loopAt A3 A.next with
     | none=>exact trivial
     | some lp =>
      simp only
      cases hbz:isBusy lp.state with
      | true=>exact trivial
      | false =>
       obtain ⟨n3',s3,d3,L3,u1,u2,u3⟩:=loop_there e1 hbl3 hlp
       simp only [cond_false]
       cases hpo:putO A3 A.next (.loop ⟨lp.n,lp.tmps,lp.params,lp.assign,lp.body,lp.pending,.exhausted⟩) with
       | none=>exact trivial
       | some A4 =>
        obtain ⟨hlim,rfl⟩:=putO_some hpo
        obtain ⟨y1,y2⟩:=e1.set (o:=.loop ⟨lp.n,lp.tmps,lp.params,lp.assign,lp.body,lp.pending,.exhausted⟩) (oc:=.loop { L3 with state:=.exhausted }) u1 hlim (n':=n3') (s':=s3) (d':=d3) ⟨_,rfl,⟨rfl,u3.pending,u3.params,u3.assign,u3.body,u3.tmps,u3.dst⟩⟩ ⟨rfl,rfl,rfl⟩
        have hnb:(L3.state == .busy)=false:=by
         rw [u3.state]
         unfold isBusy at hbz
         cases hs:lp.state <;> first | rfl | (rw [hs] at hbz; cases hbz)
        have hend:(Instr.endLoop l).run P w3=.ok L3.pending (setBlk w3 l (.loop { L3 with state:=.exhausted })):=by
         simp only [Instr.endLoop,Sem.run_bind,run_getLoop u2,Result.andThen_ok,hnb,Bool.false_eq_true,if_false,run_setLoop u2,Sem.run_pure]
        generalize hW:setBlk w3 l (.loop { L3 with state:=.exhausted })=w4 at y1 y2 hend
        generalize hA4:A3.set A.next (some (.loop ⟨lp.n,lp.tmps,lp.params,lp.assign,lp.body,lp.pending,.exhausted⟩))=A4 at y1 y2 ⊢
        have hst2:Steps P (lone (a'.at (.endRangeFunc l::k)) cs w3) (lone (a'.at ((L3.pending.map Item.code).toList++k)) cs w4):=go1 (by
         simp only [stepG,stepG.exec,Av.at,Sem.runT_eq,hend,GStep.bare_after]
         rfl)
        have hall:=hst.trans (e4.trans hst2)
        have hEall:=hE1.trans (e2.trans y2)
        have hHall:=(hH'.ext e2).ext y2
        rw [u3.pending] at hall
        simp only [loopE]
        cases hpd:lp.pending with
        | none =>
         rw [hpd] at hall
         exact ⟨φ3,_,a',cs,_,y1,hEall,hHall,hlike,hx.mono hEall.le,⟨.same _ _,rfl⟩,rfl,hall⟩
        | some j =>
         rw [hpd] at hall
         cases j with
         | exit id=>exact ⟨φ3,_,a',cs,_,y1,hEall,hHall,hlike,hx.mono hEall.le,⟨.same _ _,rfl⟩,⟨k,rfl,rfl⟩,hall⟩
         | ret=>exact ⟨φ3,_,a',cs,_,y1,hEall,hHall,hlike,hx.mono hEall.le,⟨.same _ _,rfl⟩,⟨k,rfl⟩,hall⟩
         | _=>exact trivial
  | _=>exact trivial
end Go.Sh
namespace Go.Sh
open Go
variable {P:Program} {φ:Inj} {A:AW} {w:World}
def DrawnOk (P:Program):Prop:=∀ (r:Rec),RecOk P r→∀ (n id:Nat) (ops:Array Oper),DoesOk P n [.code (.region id ops true)] ((drawC P n ops.toList (Region.before ops).toList).val r)
theorem fails_ok (n:Nat) (p:List Item):DoesOk P n p fun _ _ _ _=>.fail:=fun _ _ _ _ _ _ _ _ _ _ _ _ _ _=>trivial
theorem compC_ok (hP:NoCount P) (hD:DrawnOk P) {r:Rec} (hR:RecOk P r) (n:Nat):∀ c:Code,DoesOk P n [.code c] ((compC P n c).val r)
 | .skip=>skip_ok n
 | .label l=>label_ok n l
 | .seq a b=>seq_ok (compC_ok hP hD hR n a) (compC_ok hP hD hR n b)
 | .cond c a b=>by
  unfold compC
  cases hc:constOk P c with
  | false=>exact fails_ok n _
  | true=>exact cond_ok hc (compC_ok hP hD hR n a) (compC_ok hP hD hR n b)
 | .block id body=>block_ok (compC_ok hP hD hR n body)
 | .loop body=>loop_ok (compC_ok hP hD hR n body) 4611686018427387904
 | .exit id=>exit_ok n id
 | .goto _=>fails_ok n _
 | .ret=>ret_ok n
 | .scope body=>scope_ok (compC_ok hP hD hR n body)
 | .region id ops draw=>by
  unfold compC
  cases draw with
  | false=>exact region_ok hP hR n id ops
  | true=>exact hD r hR n id ops
 | .rangeFunc f params assign body=>by
  unfold compC
  cases hc:(constOk P f && params.toList.all (fun d=>dstOk n (some d))) with
  | false=>exact fails_ok n _
  | true =>
   simp only [Bool.and_eq_true] at hc
   exact rangeFunc_ok hP hR n f params assign body hc.1 (List.all_eq_true.1 hc.2)
 | .refuse _=>fails_ok n _
def OvOk (P:Program) (ov:Ov):Prop :=
 ∀ (f:FuncId) (φ:Inj) (A:AW) (w:World) (args args':List Value) (cs:List Frame) (o:Out) (A':AW) (x':Ctx),MR P φ A w→LR φ args args'→ov f args A=some (.ok o A' x') →
  x'=.none∧∃ φ' w' fr',MR P φ' A' w'∧Ext φ A w φ' A' w'∧OutOk P f .normal φ' w' fr' o∧Steps P (lone (Frame.enter P f ⟨args'⟩ .normal) cs w) (lone fr' cs w')
theorem ov_none:OvOk P (fun _ _ _=>none):=fun _ _ _ _ _ _ _ _ _ _ _ _ h=>by cases h
theorem run_ok (hP:NoCount P) (hD:DrawnOk P) {ov:Ov} (hO:OvOk P ov):∀ m,RecOk P (run P ov m)
 | 0=>⟨fun f φ A w args args' x kind cs _ _ _=>trivial,fun n c=>fails_ok n _⟩
 | m + 1=>by
  have hR:=run_ok hP hD hO m
  refine ⟨fun f φ A w args args' x kind cs hM ha hx=>?_,fun n c=>compC_ok hP hD hR n c⟩
  have h1:=stepCall_ok hP hR (fun n c=>compC_ok hP hD hR n c) f φ A w args args' x kind cs hM ha hx
  show match stepO P (run P ov m) f args A x (ovX ov f args A x) with | .fail=>True | .ok o A' x'=>_
  unfold stepO ovX
  cases x with
  | none =>
   simp only
   cases ho:ov f args A with
   | none=>exact h1
   | some o =>
    cases o with
    | fail=>exact trivial
    | ok o A' x' =>
     obtain ⟨rfl,φ',w',fr',g1,g2,g3,g4⟩:=hO f φ A w args args' cs o A' x' hM ha ho
     cases hx with
     | none=>exact ⟨φ',w',cs,fr',g1,g2,.none _,⟨.same _ _,rfl⟩,g3,g4⟩
  | _=>exact h1
end Go.Sh
namespace Go.Sh
open Go
variable {P:Program} {φ:Inj} {A:AW} {w:World}
theorem evS_congr {t t':Tm} {x:Operand} (h:∀ d,x=.tmp d→tget t d=tget t' d):(evS x).val t=(evS x).val t':=by
 cases x with
 | tmp d=>exact h d rfl
 | _=>rfl
def Same (t t':Tm) (l:List Operand):Prop:=∀ x ∈ l,(evS x).val t=(evS x).val t'
theorem evL_congr {t t':Tm}:∀ {l:List Operand},Same t t' l→(evL l).val t=(evL l).val t'
 | [],_=>rfl
 | x::l,h=>by
  show (evS x).val t::(evL l).val t=(evS x).val t'::(evL l).val t'
  rw [h x (List.mem_cons_self ..),evL_congr fun y hy=>h y (List.mem_cons_of_mem _ hy)]
theorem evP_congr {t t':Tm}:∀ {l:List (Nat × Operand)},Same t t' (l.map (·.2))→(evP l).val t=(evP l).val t'
 | [],_=>rfl
 | x::l,h=>by
  show (x.1,(evS x.2).val t)::(evP l).val t=(x.1,(evS x.2).val t')::(evP l).val t'
  rw [h x.2 (List.mem_cons_self ..),evP_congr fun y hy=>h y (List.mem_cons_of_mem _ hy)]
theorem evO_congr {t t':Tm} {x:Option Operand} (h:∀ y,x=some y→(evS y).val t=(evS y).val t'):(evO x).val t=(evO x).val t':=by
 cases x with
 | none=>rfl
 | some y=>show some ((evS y).val t)=some ((evS y).val t'); rw [h y rfl]
theorem opS_congr {t t':Tm} (ty:TypeId) (o:Op) (A:AW) (h:Same t t' o.operands.toList):(opS P ty o).val t A=(opS P ty o).val t' A:=by
 cases o with
 | move x=>show R.val _ A=R.val _ A; rw [h x (by simp [Op.operands])]
 | assign x=>show R.val _ A=R.val _ A; rw [h x (by simp [Op.operands])]
 | pick c a b=>show pickA A _ _ _=pickA A _ _ _; rw [h c (by simp [Op.operands]),h a (by simp [Op.operands]),h b (by simp [Op.operands])]
 | alloc e=>rfl
 | box e x=>show boxA A e _=boxA A e _; rw [h x (by simp [Op.operands])]
 | build ty parts=>show buildA P A ty _=buildA P A ty _; rw [evP_congr (l:=parts.toList) fun x hx=>h x (by simpa [Op.operands] using hx)]
 | buildSlice ty len parts=>show buildSliceA P A ty len _=buildSliceA P A ty len _; rw [evP_congr (l:=parts.toList) fun x hx=>h x (by simpa [Op.operands] using hx)]
 | load ty a=>show loadA P A ty _=loadA P A ty _; rw [h a (by simp [Op.operands])]
 | store ty a x=>show storeA P A ty _ _=storeA P A ty _ _; rw [h a (by simp [Op.operands]),h x (by simp [Op.operands])]
 | nilCheck x=>show nilCheckA P A _=nilCheckA P A _; rw [h x (by simp [Op.operands])]
 | binOp op ty x y yt=>show (binW P op ty _).val _ _ A=(binW P op ty _).val _ _ A; rw [h x (by simp [Op.operands]),h y (by simp [Op.operands])]
 | unOp op ty x=>show vR A (unS op _)=vR A (unS op _); rw [h x (by simp [Op.operands])]
 | convert s d x=>show convertA P A s d _=convertA P A s d _; rw [h x (by simp [Op.operands])]
 | makeInterface ty x=>show ifaceA P A ty _=ifaceA P A ty _; rw [h x (by simp [Op.operands])]
 | makeFunc fn a b =>
  have ha:=evL_congr (l:=a.toList) fun x hx=>h x (by simp [Op.operands]; exact .inl (by simpa using hx))
  have hb:=evL_congr (l:=b.toList) fun x hx=>h x (by simp [Op.operands]; exact .inr (by simpa using hx))
  cases fn with
  | yield l=>rfl
  | _=>show R.val (.func _ ⟨_⟩ ⟨_⟩) A=R.val (.func _ ⟨_⟩ ⟨_⟩) A; rw [ha,hb]
 | makeMap ty r=>cases r <;> rfl
 | makeSlice ty l c=>show makeSliceA P A ty _ _=makeSliceA P A ty _ _; rw [h l (by simp [Op.operands]),h c (by simp [Op.operands])]
 | slice ty x lo hi mx =>
  show sliceA P A ty _ _ _ _=sliceA P A ty _ _ _ _
  rw [h x (by simp [Op.operands]),evO_congr (x:=lo) fun y hy=>h y (by subst hy; simp [Op.operands]),evO_congr (x:=hi) fun y hy=>h y (by subst hy; simp [Op.operands]),evO_congr (x:=mx) fun y hy=>h y (by subst hy; simp [Op.operands])]
 | fieldAddr s x f=>show fieldAddrA P A s f _=fieldAddrA P A s f _; rw [h x (by simp [Op.operands])]
 | field ty x f=>show fieldA P A ty f _=fieldA P A ty f _; rw [h x (by simp [Op.operands])]
 | indexAddr ty x i=>show indexAddrA P A ty _ _=indexAddrA P A ty _ _; rw [h x (by simp [Op.operands]),h i (by simp [Op.operands])]
 | index ty x i=>show indexA P A ty _ _=indexA P A ty _ _; rw [h x (by simp [Op.operands]),h i (by simp [Op.operands])]
 | lookup ty x k ok=>show lookupA P A ty _ _ ok=lookupA P A ty _ _ ok; rw [h x (by simp [Op.operands]),h k (by simp [Op.operands])]
 | mapUpdate ty m k x=>show mapUpdateA P A ty _ _ _=mapUpdateA P A ty _ _ _; rw [h m (by simp [Op.operands]),h k (by simp [Op.operands]),h x (by simp [Op.operands])]
 | insert ty m k x=>show mapUpdateA P A ty _ _ _=mapUpdateA P A ty _ _ _; rw [h m (by simp [Op.operands]),h k (by simp [Op.operands]),h x (by simp [Op.operands])]
 | mapEntry ty m k=>show mapEntryA P A ty _ _=mapEntryA P A ty _ _; rw [h m (by simp [Op.operands]),h k (by simp [Op.operands])]
 | entryStore ty m s x=>show entryStoreA A _ _ _=entryStoreA A _ _ _; rw [h m (by simp [Op.operands]),h s (by simp [Op.operands]),h x (by simp [Op.operands])]
 | range ty x=>show rangeA P A ty _=rangeA P A ty _; rw [h x (by simp [Op.operands])]
 | next it str=>show nextA A str _=nextA A str _; rw [h it (by simp [Op.operands])]
 | entry it=>show entryA A _=entryA A _; rw [h it (by simp [Op.operands])]
 | typeAssert x xt ty ok=>show typeAssertA P A ty ok _=typeAssertA P A ty ok _; rw [h x (by simp [Op.operands])]
 | extract x i=>show extractA A _ i=extractA A _ i; rw [h x (by simp [Op.operands])]
 | panic x=>show panicB A _=panicB A _; rw [h x (by simp [Op.operands])]
 | call c =>
  obtain ⟨callee,args,ats⟩:=c
  cases callee with
  | builtin b =>
   show builtinA P A b ats ty _=builtinA P A b ats ty _
   rw [evL_congr (l:=args.toList) fun x hx=>h x (by simp [Op.operands,Call.operands]; first | exact .inr (by simpa using hx) | simpa using hx)]
  | invoke recv name =>
   show callM P A _ name _=callM P A _ name _
   rw [h recv (by simp [Op.operands,Call.operands]),evL_congr (l:=args.toList) fun x hx=>h x (by simp [Op.operands,Call.operands]; first | exact .inr (by simpa using hx) | simpa using hx)]
  | value f =>
   show callV P A _ _=callV P A _ _
   rw [h f (by simp [Op.operands,Call.operands]),evL_congr (l:=args.toList) fun x hx=>h x (by simp [Op.operands,Call.operands]; first | exact .inr (by simpa using hx) | simpa using hx)]
 | defer c =>
  obtain ⟨callee,args,ats⟩:=c
  cases callee with
  | value f =>
   show deferV A _ _=deferV A _ _
   rw [h f (by simp [Op.operands,Call.operands]),evL_congr (l:=args.toList) fun x hx=>h x (by simp [Op.operands,Call.operands]; first | exact .inr (by simpa using hx) | simpa using hx)]
  | _=>rfl
 | _=>rfl
def Quiet (A B:AW) (y z:R):Prop:=∀ v A',y=.val v A'→A'=A∧z=.val v B
theorem Quiet.val (A B:AW) (v:Value):Quiet A B (.val v A) (.val v B):=fun u A' h=>by cases h; exact ⟨rfl,rfl⟩
theorem Quiet.fail (A B:AW) (z:R):Quiet A B .fail z:=fun u A' h=>by cases h
theorem Quiet.pan (A B A1:AW) (v:Value) (z:R):Quiet A B (.panic v A1) z:=fun u A' h=>by cases h
theorem Quiet.vR (A B:AW) (v:Option Value):Quiet A B (vR A v) (vR B v):=by
 cases v with
 | none=>exact .fail _ _ _
 | some v=>exact .val _ _ _
theorem pick_quiet (A B:AW) (c a b:Value):Quiet A B (pickA A c a b) (pickA B c a b):=by
 cases c <;> first | exact .val _ _ _ | exact .fail _ _ _
theorem build_quiet (A B:AW) (t:TypeId) (ps:List (Nat × Value)):Quiet A B (buildA P A t ps) (buildA P B t ps):=by
 unfold buildA
 cases zeroA P t with
 | none=>exact .fail _ _ _
 | some z=>cases placeOf P t with
  | none=>exact .fail _ _ _
  | some p =>
   simp only
   cases fillA p (cellsOf z) ps with
   | none=>exact .fail _ _ _
   | some cs=>exact .val _ _ _
theorem nilCheck_quiet (A B:AW) (x:Value):Quiet A B (nilCheckA P A x) (nilCheckA P B x):=by
 cases x with
 | pointer a=>cases a with
  | none=>exact .pan _ _ _ _ _
  | some a=>exact .val _ _ _
 | nilIface=>exact .pan _ _ _ _ _
 | nilFunc=>exact .pan _ _ _ _ _
 | func fn a b=>cases fn <;> first | exact .fail _ _ _ | exact .val _ _ _
 | iface t v=>exact .val _ _ _
 | _=>exact .fail _ _ _
theorem iface_quiet (A B:AW) (t:TypeId) (x:Value):Quiet A B (ifaceA P A t x) (ifaceA P B t x):=by
 unfold ifaceA
 cases isIface P t with
 | none=>exact .fail _ _ _
 | some b=>cases b <;> first | exact .val _ _ _ | exact .fail _ _ _
theorem fieldAddr_quiet (A B:AW) (s:TypeId) (f:Nat) (x:Value):Quiet A B (fieldAddrA P A s f x) (fieldAddrA P B s f x):=by
 cases x with
 | pointer a=>cases a with
  | none=>exact .fail _ _ _
  | some a =>
   unfold fieldAddrA
   simp only
   cases fieldOf P s f with
   | none=>exact .fail _ _ _
   | some f =>
    simp only
    cases szOf P f.type with
    | none=>exact .fail _ _ _
    | some n=>cases n with
     | zero=>exact .fail _ _ _
     | succ n=>exact .val _ _ _
 | _=>exact .fail _ _ _
theorem field_quiet (A B:AW) (s:TypeId) (f:Nat) (x:Value):Quiet A B (fieldA P A s f x) (fieldA P B s f x):=by
 cases x with
 | agg cs =>
  unfold fieldA
  simp only
  cases fieldOf P s f with
  | none=>exact .fail _ _ _
  | some f=>exact .vR _ _ _
 | _=>exact .fail _ _ _
theorem indexAddrB_quiet (A B:AW) (a:Addr) (n:Nat) (e:TypeId) (i:Int):Quiet A B (indexAddrB P A a n e i) (indexAddrB P B a n e i):=by
 unfold indexAddrB
 cases idxIn i n with
 | none=>exact .pan _ _ _ _ _
 | some i =>
  simp only
  cases szOf P e with
  | none=>exact .fail _ _ _
  | some s=>exact .val _ _ _
theorem indexAddr_quiet (A B:AW) (t:TypeId) (x ix:Value):Quiet A B (indexAddrA P A t x ix) (indexAddrA P B t x ix):=by
 cases ix with
 | int k i =>
  unfold indexAddrA
  simp only
  unfold indexAddrC
  cases x with
  | pointer a=>cases a with
   | none=>exact .fail _ _ _
   | some a =>
    simp only
    cases arrN P t with
    | none=>exact .fail _ _ _
    | some p =>
     simp only
     cases Nat.ble p.1 1
     ·exact indexAddrB_quiet A B a p.1 p.2 i
     ·exact .fail _ _ _
  | slice a n c =>
   simp only
   cases elemA P t with
   | none=>exact .fail _ _ _
   | some e=>cases a with
    | none=>exact .pan _ _ _ _ _
    | some a=>exact indexAddrB_quiet A B a n e i
  | _=>exact .fail _ _ _
 | _=>exact .fail _ _ _
theorem index_quiet (A B:AW) (t:TypeId) (x ix:Value):Quiet A B (indexA P A t x ix) (indexA P B t x ix):=by
 cases ix with
 | int k i =>
  unfold indexA
  simp only
  cases x with
  | agg cs =>
   simp only
   unfold indexArr
   cases arrN P t with
   | none=>exact .fail _ _ _
   | some p =>
    simp only
    cases idxIn i p.1 with
    | none=>exact .pan _ _ _ _ _
    | some i =>
     simp only
     cases szOf P p.2 with
     | none=>exact .fail _ _ _
     | some s=>exact .vR _ _ _
  | string s =>
   simp only
   cases P.underlying t with
   | none=>exact .fail _ _ _
   | some d =>
    cases d <;> first | exact .fail _ _ _ | skip
    simp only
    unfold indexStr
    cases i with
    | ofNat k =>
     simp only
     cases nth (bytesOf s) k with
     | none=>exact .pan _ _ _ _ _
     | some b=>exact .val _ _ _
    | negSucc k=>exact .pan _ _ _ _ _
  | _=>exact .fail _ _ _
 | _=>exact .fail _ _ _
theorem assertFails_quiet (A B:AW) (t:TypeId) (ok:Bool):Quiet A B (assertFails P A t ok) (assertFails P B t ok):=by
 unfold assertFails
 cases ok
 ·exact .fail _ _ _
 ·simp only [cond_true]
  cases zeroA P t with
  | none=>exact .fail _ _ _
  | some z=>exact .val _ _ _
theorem typeAssert_quiet (A B:AW) (t:TypeId) (ok:Bool) (x:Value):Quiet A B (typeAssertA P A t ok x) (typeAssertA P B t ok x):=by
 unfold typeAssertA
 cases isIface P t with
 | none=>exact .fail _ _ _
 | some b =>
  cases b
  ·simp only [cond_false]
   cases x with
   | iface d y =>
    simp only
    cases Nat.beq d t
    ·exact assertFails_quiet A B t ok
    ·exact .val _ _ _
   | nilIface=>exact assertFails_quiet A B t ok
   | _=>exact .fail _ _ _
  ·exact .fail _ _ _
theorem extract_quiet (A B:AW) (x:Value) (i:Nat):Quiet A B (extractA A x i) (extractA B x i):=by
 cases x <;> first | exact .vR _ _ _ | exact .fail _ _ _
theorem convInt_quiet (A B:AW) {s d:TypeId} {k:IntKind} (hd:P.underlying d=some (.int k)) (x:Value):Quiet A B (convertA P A s d x) (convertA P B s d x):=by
 unfold convertA
 rw [hd]
 cases P.underlying s with
 | none=>exact .fail _ _ _
 | some sd =>
  simp only [convTo,convInt]
  cases x <;> first | exact .val _ _ _ | exact .fail _ _ _
theorem min_quiet (A B:AW) (l:List Value):Quiet A B (minB A l) (minB B l):=by
 cases l with
 | nil=>exact .fail _ _ _
 | cons v l=>cases v <;> first | exact .vR _ _ _ | exact .fail _ _ _
theorem max_quiet (A B:AW) (l:List Value):Quiet A B (maxB A l) (maxB B l):=by
 cases l with
 | nil=>exact .fail _ _ _
 | cons v l=>cases v <;> first | exact .vR _ _ _ | exact .fail _ _ _
theorem cap_quiet (A B:AW) (ts:List TypeId) (l:List Value):Quiet A B (cap1 P A ts l) (cap1 P B ts l):=by
 cases ts with
 | nil=>exact .fail _ _ _
 | cons t ts=>cases l with
  | nil=>exact .fail _ _ _
  | cons x l =>
   show Quiet A B (capB P A t x) (capB P B t x)
   unfold capB
   cases P.underlying t with
   | none=>exact .fail _ _ _
   | some d =>
    cases d <;> first | exact .fail _ _ _ | skip
    simp only
    cases x <;> first | exact .fail _ _ _ | skip
    rename_i a n c
    cases a <;> first | exact .val _ _ _ | exact .fail _ _ _
theorem sliceData_quiet (A B:AW) (l:List Value):Quiet A B (sliceData1 A l) (sliceData1 B l):=by
 cases l with
 | nil=>exact .fail _ _ _
 | cons x l=>cases l with
  | cons y l=>exact .fail _ _ _
  | nil =>
   show Quiet A B (sliceDataB A x) (sliceDataB B x)
   unfold sliceDataB
   cases x <;> first | exact .fail _ _ _ | skip
   rename_i a n c
   cases a with
   | none=>exact .val _ _ _
   | some a =>
    simp only
    cases Nat.beq c 0 <;> first | exact .val _ _ _ | exact .fail _ _ _
theorem binW_quiet (A B:AW) {op:BinOp} (h:kindE op=0) (ty:TypeId) (c:Bool) (x y:Value):Quiet A B ((binW P op ty c).val x y A) ((binW P op ty c).val x y B):=by
 cases op <;> first | (cases h; done) | exact .vR _ _ _
theorem quiet_op {o:Op} (h:kindOf P o=0) (ty:TypeId) (t:Tm) (A B:AW):Quiet A B ((opS P ty o).val t A) ((opS P ty o).val t B):=by
 cases o with
 | move x=>exact .val _ _ _
 | assign x=>exact .val _ _ _
 | pick c a b=>exact pick_quiet A B _ _ _
 | build ty parts=>exact build_quiet A B ty _
 | nilCheck x=>exact nilCheck_quiet A B _
 | binOp op ty x y yt=>exact binW_quiet A B h ty _ _ _
 | unOp op ty x=>exact .vR _ _ _
 | convert s d x =>
  have hk:∃ k,P.underlying d=some (.int k):=by
   unfold kindOf at h
   simp only at h
   split at h
   ·rename_i k hk; exact ⟨k,hk⟩
   ·cases h
  obtain ⟨k,hk⟩:=hk
  exact convInt_quiet A B hk _
 | makeInterface ty x=>exact iface_quiet A B ty _
 | makeFunc fn a b=>cases fn <;> first | exact .val _ _ _ | exact .fail _ _ _
 | fieldAddr s x f=>exact fieldAddr_quiet A B s f _
 | field ty x f=>exact field_quiet A B ty f _
 | indexAddr ty x i=>exact indexAddr_quiet A B ty _ _
 | index ty x i=>exact index_quiet A B ty _ _
 | typeAssert x xt ty ok=>exact typeAssert_quiet A B ty ok _
 | extract x i=>exact extract_quiet A B _ i
 | call c =>
  obtain ⟨callee,args,ats⟩:=c
  cases callee with
  | builtin b =>
   cases b <;> first | (cases h; done) | skip
   ·exact cap_quiet A B _ _
   ·exact max_quiet A B _
   ·exact min_quiet A B _
   ·exact sliceData_quiet A B _
  | _=>cases h
 | _=>cases h
end Go.Sh
namespace Go.Sh
open Go
variable {P:Program} {φ:Inj} {A:AW} {w:World}
def Reads (A:AW) (y:R):Prop:=∀ v A',y=.val v A'→A'=A
theorem Reads.val (A:AW) (v:Value):Reads A (.val v A):=fun _ _ h=>by cases h; rfl
theorem Reads.fail (A:AW):Reads A .fail:=fun _ _ h=>by cases h
theorem Reads.vR (A:AW) (v:Option Value):Reads A (vR A v):=by
 cases v with
 | none=>exact .fail _
 | some v=>exact .val _ _
theorem load_reads (A:AW) (t:TypeId) (a:Value):Reads A (loadA P A t a):=by
 cases a with
 | pointer a=>cases a with
  | none=>exact .fail _
  | some a=>exact .vR _ _
 | _=>exact .fail _
theorem lookR_reads (A:AW) (e:TypeId) (ok:Bool) (r:Option (Option (Nat × Value))):Reads A (lookR P A e ok r):=by
 cases r with
 | none=>exact .fail _
 | some r=>cases r with
  | some p=>exact .val _ _
  | none =>
   unfold lookR
   simp only
   cases zeroA P e with
   | none=>exact .fail _
   | some z=>exact .val _ _
theorem lookup_reads (A:AW) (t:TypeId) (m k:Value) (ok:Bool):Reads A (lookupA P A t m k ok):=by
 unfold lookupA
 cases mapOf P t with
 | none=>exact .fail _
 | some p =>
  simp only
  cases keyFits p.2 k
  ·exact .fail _
  ·exact lookR_reads A _ _ _
theorem cutR_reads (A:AW) (h l m:Nat) (a:Option Addr):Reads A (cutR A h l m a):=by
 cases a with
 | none=>exact .fail _
 | some a=>exact .val _ _
theorem sliceStr_reads (A:AW) (l:List UInt8) (n:Nat) (lo hi:Option Value):Reads A (sliceStr A l n lo hi):=by
 unfold sliceStr
 cases boundA hi n n with
 | none=>exact .fail _
 | some h =>
  simp only
  cases boundA lo h 0 with
  | none=>exact .fail _
  | some lo=>exact .val _ _
theorem sliceRow_reads (A:AW) (e:TypeId) (a:Option Addr) (n cap size:Nat) (lo hi mx:Option Value):Reads A (sliceRow A e a n cap size lo hi mx):=by
 unfold sliceRow
 cases boundA mx cap cap with
 | none=>exact .fail _
 | some m =>
  simp only
  cases boundA hi m n with
  | none=>exact .fail _
  | some h =>
   simp only
   cases boundA lo h 0 with
   | none=>exact .fail _
   | some l=>cases a with
    | none=>exact .val _ _
    | some a=>exact cutR_reads A _ _ _ _
theorem sliceArr_reads (A:AW) (a:Addr) (n size:Nat) (lo hi mx:Option Value):Reads A (sliceArr A a n size lo hi mx):=by
 unfold sliceArr
 cases boundA mx n n with
 | none=>exact .fail _
 | some m =>
  simp only
  cases boundA hi m n with
  | none=>exact .fail _
  | some h =>
   simp only
   cases boundA lo h 0 with
   | none=>exact .fail _
   | some l=>exact .val _ _
theorem slice_reads (A:AW) (t:TypeId) (x:Value) (lo hi mx:Option Value):Reads A (sliceA P A t x lo hi mx):=by
 unfold sliceA
 cases sliceB1 hi mx
 ·exact .fail _
 ·simp only [cond_true]
  cases x with
  | string s =>
   simp only
   cases P.underlying t with
   | none=>exact .fail _
   | some d =>
    cases d <;> first | exact .fail _ | skip
    simp only
    cases mx.isNone
    ·exact .fail _
    ·exact sliceStr_reads A _ _ _ _
  | slice a n cap =>
   simp only
   cases elemA P t with
   | none=>exact .fail _
   | some e =>
    simp only
    cases szOf P e with
    | none=>exact .fail _
    | some size=>exact sliceRow_reads A _ _ _ _ _ _ _ _
  | pointer a=>cases a with
   | none=>exact .fail _
   | some a =>
    simp only
    cases arrN P t with
    | none=>exact .fail _
    | some p =>
     simp only
     cases szOf P p.2 with
     | none=>exact .fail _
     | some size=>exact sliceArr_reads A _ _ _ _ _ _
  | _=>exact .fail _
theorem len_reads (A:AW) (ts:List TypeId) (l:List Value):Reads A (len1 P A ts l):=by
 cases ts with
 | nil=>exact .fail _
 | cons t ts=>cases l with
  | nil=>exact .fail _
  | cons x l =>
   show Reads A (lenB P A t x)
   unfold lenB
   cases P.underlying t with
   | none=>exact .fail _
   | some d =>
    cases d <;> first | exact .fail _ | exact .val _ _ | skip
    ·simp only
     cases x <;> first | exact .val _ _ | exact .fail _
    ·rename_i a
     simp only
     cases arrN P a with
     | none=>exact .fail _
     | some p=>exact .val _ _
    ·simp only
     cases x <;> first | exact .val _ _ | exact .fail _
    ·simp only
     cases x <;> first | exact .fail _ | skip
     rename_i r
     cases r with
     | none=>exact .val _ _
     | some r =>
      simp only
      unfold lenOfMap
      split <;> first | exact .fail _ | exact .val _ _ | skip
theorem binE_reads (A:AW) {op:BinOp} (h:kindE op=1) (ty:TypeId) (c:Bool) (x y:Value):Reads A ((binW P op ty c).val x y A):=by
 cases op <;> first | (cases h; done) | exact .vR _ _
theorem read_op {o:Op} (h:kindOf P o=1) (ty:TypeId) (t:Tm) (A:AW):Reads A ((opS P ty o).val t A):=by
 cases o with
 | load ty a=>exact load_reads A ty _
 | lookup ty x k ok=>exact lookup_reads A ty _ _ ok
 | slice ty x lo hi mx=>exact slice_reads A ty _ _ _ _
 | binOp op ty x y yt=>exact binE_reads A h ty _ _ _
 | convert s d x =>
  unfold kindOf at h
  simp only at h
  split at h <;> cases h
 | call c =>
  obtain ⟨callee,args,ats⟩:=c
  cases callee with
  | builtin b =>
   cases b <;> first | (cases h; done) | skip
   ·exact len_reads A _ _
  | _=>cases h
 | _=>cases h
def NewOk (P:Program) (φ:Inj) (w:World) (o:AObj) (f:Nat→Value) (res:Result Next):Prop :=
 ∃ oc n s v',OR P φ o oc n s 0∧res=.ok (.value v') (w.alloc oc)∧∀ (φ':Inj) (b:Nat),φ' b=some (.at_ w.heap.size n s 0)→VR φ' (f b) v'
theorem newRow_ok {e:TypeId} {c:List Value} {cc:List Value} (hc:LR φ c cc) {f:Nat→Value} {v':Value} {res:Result Next} (hr:res=.ok (.value v') (w.alloc (.cells ⟨cc⟩ e)))
  (hf:∀ (φ':Inj) (b:Nat),φ' b=some (.at_ w.heap.size cc.length ((szOf P e).getD 0) 0)→VR φ' (f b) v'):NewOk P φ w (.cells c e false) f res :=
 ⟨_,cc.length,(szOf P e).getD 0,v',⟨_,_,_,rfl,⟨rfl,rfl,rfl,by have:=hc.length; simp; omega,by have:=hc.length; simp [this]; exact hc,fun _ off _=>by simp,fun _=>Nat.dvd_zero _⟩⟩,hr,hf⟩
theorem box_new (e:TypeId) {x x':Value} (hx:VR φ x x'):NewOk P φ w (.cells (cellsOf x) e false) ptrV ((do pure (.value (← Instr.box e x'):Next):Sem Next).run P w) :=
 newRow_ok (cells_LR hx) (v':=.pointer (some ⟨w.heap.size,0,none⟩)) (run_v (by simp [Instr.box,newVar,run_newRow])) fun φ' b h=>new_ptr h
theorem alloc_new {e:TypeId} {z:Value} (hz:zeroA P e=some z):NewOk P φ w (.cells (cellsOf z) e false) ptrV ((do pure (.value (← Instr.alloc e true (.tuple #[])):Next):Sem Next).run P w):=by
 obtain ⟨i,_,_,h3,_⟩:=zeroA_some hz
 exact newRow_ok (cells_LR (h3 φ)) (v':=.pointer (some ⟨w.heap.size,0,none⟩)) (run_v (by simp [Instr.alloc,newVar,run_newRow,run_zeroValue hz])) fun φ' b h=>new_ptr h
theorem makeMap_new (t:TypeId):NewOk P φ w (.map [] 0) mapV ((do pure (.value (← Instr.makeMap t none):Next):Sem Next).run P w) :=
 ⟨.map #[] 0,0,0,.map (some w.heap.size),⟨[],rfl,.nil⟩,run_v (by simp [Instr.makeMap]),fun φ' b h=>.map (.inr ⟨0,0,0,h⟩)⟩
end Go.Sh
namespace Go.Sh
open Go
variable {P:Program} {φ:Inj} {A:AW} {w:World}
theorem makeSlice_new (t:TypeId) {l l' c c':Value} (hl:VR φ l l') (hc:VR φ c c') {v:Value} {A':AW} (h:makeSliceA P A t l c=.val v A') :
  ∃ o f,(∀ B,makeSliceA P B t l c=newR B o f)∧NewOk P φ w o f ((do pure (.value (← Instr.makeSlice t l' c'):Next):Sem Next).run P w):=by
 unfold makeSliceA at h ⊢
 cases he:elemA P t with
 | none=>rw [he] at h; cases h
 | some e =>
  have hu:=elemA_some he
  rw [he] at h
  simp only at h ⊢
  cases hn:natA l with
  | none=>rw [hn] at h; cases h
  | some n =>
   rw [hn] at h
   simp only at h ⊢
   cases hm:natA c with
   | none=>rw [hm] at h; cases h
   | some m =>
    rw [hm] at h
    obtain ⟨k1,rfl⟩:=natA_some hn
    obtain ⟨k2,rfl⟩:=natA_some hm
    have e1:=VR_int hl
    have e2:=VR_int hc
    subst e1 e2
    simp only [makeSliceB] at h ⊢
    cases hz:zeroA P e with
    | none=>rw [hz] at h; cases h
    | some z =>
     obtain ⟨i,h1,h2,h3,h4,_⟩:=zeroA_some hz
     rw [hz] at h
     simp only at h ⊢
     cases hb:(Nat.ble n m && (Nat.ble m 1000000 && smallT P e)) with
     | false=>rw [hb] at h; cases h
     | true =>
      simp only [Bool.and_eq_true] at hb
      obtain ⟨hb1,hb2,hb3⟩:=hb
      have hb1:=Nat.le_of_ble_eq_true hb1
      have hb2:=Nat.le_of_ble_eq_true hb2
      obtain ⟨i',z',g1,g2,_⟩:=smallT_some hb3
      rw [h1] at g1
      injection g1 with g1
      subst g1
      simp only [cond_true]
      have hzl:z.cells.size=i.size:=by
       have:=(elem_LR (φ:=φ) h3).length
       rw [h4] at this
       simpa using this.symm
      have hcells:madeCells z.cells (m * i.size)=⟨repl z.cells.toList m⟩:=by
       apply Array.ext'
       rw [← hzl]
       exact range_zero z.cells m
      refine ⟨_,_,fun B=>rfl,newRow_ok (cc:=repl z.cells.toList m) ((elem_LR h3).repl m) (v':=.slice (some ⟨w.heap.size,0,none⟩) n m) (run_v ?_) fun φ' b hb=>?_⟩
      ·have hbm:(i.bytes:Int) * (m:Int)≤281474976710656:=by
        have h5:i.bytes * m≤1000000 * 1000000:=Nat.mul_le_mul g2 hb2
        have h6:((i.bytes * m:Nat):Int)≤281474976710656:=by omega
        rwa [Int.natCast_mul] at h6
       have:=run_make (P:=P) w t e i z hu h1 h2 k1 k2 n m (by omega) (by omega) hbm (by omega)
       simp only [Int.toNat_natCast,hcells] at this
       exact this
      ·refine new_row hb hb1 (Nat.le_refl _) ?_
       rw [repl_length,szOf_info h1]
       simp [hzl]
theorem fillA_length {size:Nat}:∀ {parts:List (Nat × Value)} {c o:List Value},fillA (rowAt size) c parts=some o→o.length=c.length
 | [],c,o,h=>by cases h; rfl
 | p::ps,c,o,h=>by
  simp only [fillA,rowAt,lenL0] at h
  cases hcd:(Nat.beq (cellsOf p.2).length size && Nat.ble (p.1 * size + size) c.length) with
  | false=>rw [hcd] at h; cases h
  | true =>
   rw [hcd] at h
   simp only [Bool.and_eq_true] at hcd
   have a1:=Nat.eq_of_beq_eq_true hcd.1
   have a2:=Nat.le_of_ble_eq_true hcd.2
   rw [fillA_length h,spliceL_length _ _ _ (by omega)]
theorem buildSlice_new (t:TypeId) (len:Nat) {parts parts':List (Nat × Value)} (hp:PR φ parts parts') {v:Value} {A':AW} (h:buildSliceA P A t len parts=.val v A') :
  ∃ o f,(∀ B,buildSliceA P B t len parts=newR B o f)∧NewOk P φ w o f ((do pure (.value (← Instr.buildSlice t len ⟨parts'⟩):Next):Sem Next).run P w):=by
 unfold buildSliceA at h ⊢
 cases he:elemA P t with
 | none=>rw [he] at h; cases h
 | some e =>
  have hu:=elemA_some he
  rw [he] at h
  simp only at h ⊢
  cases hs:szOf P e with
  | none=>rw [hs] at h; cases h
  | some size =>
   rw [hs] at h
   simp only at h ⊢
   cases hz:zeroA P e with
   | none=>rw [hz] at h; cases h
   | some z =>
    obtain ⟨i,h1,h2,h3,h4,_⟩:=zeroA_some hz
    rw [hz] at h
    simp only at h ⊢
    cases hb:Nat.ble (len * size) 1000000 with
    | false=>rw [hb] at h; cases h
    | true =>
     rw [hb] at h
     have hb:=Nat.le_of_ble_eq_true hb
     simp only [cond_true,rowR] at h ⊢
     cases hf:fillA (rowAt size) (repl (cellsOf z) len) parts with
     | none=>rw [hf] at h; cases h
     | some cs =>
      simp only
      have hsz:i.size=size:=by rw [szOf_info h1] at hs; exact opt_some hs
      have hzl:z.cells.size=size:=by
       have:=(elem_LR (φ:=φ) h3).length
       rw [h4,hsz] at this
       simpa using this.symm
      obtain ⟨out',r1,r2⟩:=fill_ok (place':=fun i=>some (i * size,size)) (fun i q hq=>hq) hp (cs':=⟨repl z.cells.toList len⟩) ((elem_LR h3).repl len) hf
      have hcells:∀ zz:Array Value,(len * size ≠ 0→zz=z.cells)→(Array.range (len * size)).map (zz[· % zz.size]!)=⟨repl z.cells.toList len⟩:=by
       intro zz hzz
       by_cases h0:len * size=0
       ·have:(repl z.cells.toList len).length=0:=by rw [repl_length]; simp [hzl,h0]
        rw [List.eq_nil_of_length_eq_zero this,h0,Array.range_zero']
        simp
       ·rw [hzz h0]
        apply Array.ext'
        rw [← hzl]
        exact range_zero z.cells len
      have hlen:out'.length=len * size:=by rw [← r1.length,fillA_length hf,repl_length,h4,hsz]
      refine ⟨_,_,fun B=>rfl,newRow_ok (cc:=out') (by simpa using r1) (v':=.slice (some ⟨w.heap.size,0,none⟩) len len) (run_v ?_) fun φ' b hb=>?_⟩
      ·have n1:¬ (len * size > 2 ^ 24):=by
        have:(2:Nat) ^ 24=16777216:=by decide
        omega
       simp only [Instr.buildSlice,Sem.run_bind,run_underlying' hu,Result.andThen_ok,run_sizeOf hs,if_neg n1]
       by_cases h0:len * size=0
       ·simp only [if_pos h0]
        have e1:=hcells #[] (fun h=>absurd h0 h)
        rw [h0] at e1 ⊢
        simp only [Array.range_zero'] at e1 ⊢
        simp only [List.map_toArray,List.map_nil] at e1 ⊢
        rw [e1,r2]
        simp only [Sem.run_bind,run_newRow,Result.andThen_ok,Sem.run_pure]
       ·simp only [if_neg h0,Sem.run_bind,run_zeroValue hz,Sem.run_pure,Result.andThen_ok,hcells z.cells (fun _=>rfl)]
        simp only [r2,Sem.run_bind,run_newRow,Result.andThen_ok,Sem.run_pure]
      ·refine new_lit hb ?_
       rw [hs,hlen]
       exact Nat.le_refl _
theorem new_op {o:Oper} (hk:kindOf P o.op=3) {n:Nat} {t:Tm} {fr:Frame} (hM:MR P φ A w) (hT:TR φ n t fr.tmps) (hc:∀ x ∈ o.op.operands.toList,constOk P x=true) {A0 A':AW} {v:Value} (h:(opS P o.type o.op).val t A0=.val v A') :
  ∃ b f,(∀ B,(opS P o.type o.op).val t B=newR B b f)∧NewOk P φ w b f ((execOp fr.eval o).run P w):=by
 have hS:∀ x,x ∈ o.op.operands.toList→VR φ ((evS x).val t) (fr.eval x):=fun x hx=>evS_ok hM hT x (hc x hx)
 obtain ⟨dst,op,type,pos,after,guard⟩:=o
 simp only at hk h hc hS ⊢
 cases op with
 | alloc e =>
  have h':allocA P A0 e=.val v A':=h
  unfold allocA at h'
  cases hz:zeroA P e with
  | none=>rw [hz] at h'; cases h'
  | some z=>exact ⟨_,_,fun B=>by show allocA P B e=_; unfold allocA; rw [hz],alloc_new hz⟩
 | box e x=>exact ⟨_,_,fun B=>rfl,box_new e (hS x (by simp [Op.operands]))⟩
 | buildSlice ty len parts =>
  obtain ⟨b,f,h1,h2⟩:=buildSlice_new (P:=P) (φ:=φ) (w:=w) ty len (evP_ok hM hT parts.toList fun x hx=>hc x (by simpa [Op.operands] using hx)) h
  have e:(⟨parts.toList.map fun p=>(p.1,fr.eval p.2)⟩:Array (Nat × Value))=parts.map fun p=>(p.1,fr.eval p.2):=by apply Array.ext'; simp
  rw [e] at h2
  exact ⟨b,f,h1,h2⟩
 | makeMap ty r=>cases r with
  | none=>exact ⟨_,_,fun B=>rfl,makeMap_new ty⟩
  | some x=>cases h
 | makeSlice ty l c=>exact makeSlice_new ty (hS l (by simp [Op.operands])) (hS c (by simp [Op.operands])) h
 | binOp op ty x y yt=>cases op <;> cases hk
 | convert s d x =>
  unfold kindOf at hk
  simp only at hk
  split at hk <;> cases hk
 | call c =>
  obtain ⟨callee,args,ats⟩:=c
  cases callee with
  | builtin b=>cases b <;> cases hk
  | _=>cases hk
 | _=>cases hk
theorem byteL_sound:∀ {a b:List UInt8},byteL a b=true→a=b
 | [],[],_=>rfl
 | [],_::_,h=>by cases h
 | _::_,[],h=>by cases h
 | x::a,y::b,h=>by
  unfold byteL at h
  cases hb:Nat.beq x.toNat y.toNat with
  | false=>rw [hb] at h; cases h
  | true =>
   rw [hb] at h
   rw [UInt8.toNat_inj.1 (Nat.eq_of_beq_eq_true hb),byteL_sound h]
theorem sameK_sound {a b:IntKind} (h:sameK a b=true):a=b:=by cases a <;> cases b <;> first | rfl | cases h
theorem intEq_sound {a b:Int} (h:intEq a b=true):a=b:=by
 cases a <;> cases b <;> first | (rw [Nat.eq_of_beq_eq_true h]; done) | cases h
theorem sameVals_eq {s:Value→Value→Bool} (hs:∀ x y,s x y=true→x=y):∀ {l m:List Value},sameVal.sameVals s l m=true→l=m
 | [],[],_=>rfl
 | [],_::_,h=>by cases h
 | _::_,[],h=>by cases h
 | x::l,y::m,h=>by
  simp only [sameVal.sameVals,Bool.and_eq_true] at h
  rw [hs x y h.1,sameVals_eq hs h.2]
theorem arr_eq {l m:Array Value} (h:l.toList=m.toList):l=m:=Array.ext' h
theorem sameVal_eq:∀ (n:Nat) (x y:Value),sameVal n x y=true→x=y
 | 0,_,_,h=>by cases h
 | n + 1,x,y,h=>by
  have ih:=sameVal_eq n
  cases x with
  | int k a =>
   cases y <;> first | (cases h; done) | skip
   simp only [sameVal,Bool.and_eq_true] at h
   rw [sameK_sound h.1,intEq_sound h.2]
  | bool a =>
   cases y <;> first | (cases h; done) | skip
   simp only [sameVal,beq_iff_eq] at h
   rw [h]
  | string a =>
   cases y <;> first | (cases h; done) | skip
   rename_i b
   simp only [sameVal,bytesOf] at h
   have:=byteL_sound h
   obtain ⟨⟨a⟩⟩:=a
   obtain ⟨⟨b⟩⟩:=b
   simp only at this
   rw [this]
  | pointer a =>
   cases y <;> first | (cases h; done) | skip
   simp only [sameVal,beq_iff_eq] at h
   rw [h]
  | slice a l c =>
   cases y <;> first | (cases h; done) | skip
   simp only [sameVal,Bool.and_eq_true,beq_iff_eq] at h
   rw [h.1,Nat.eq_of_beq_eq_true h.2.1,Nat.eq_of_beq_eq_true h.2.2]
  | map a =>
   cases y <;> first | (cases h; done) | skip
   simp only [sameVal,beq_iff_eq] at h
   rw [h]
  | chan a =>
   cases y <;> first | (cases h; done) | skip
   simp only [sameVal,beq_iff_eq] at h
   rw [h]
  | nilIface=>cases y <;> first | (cases h; done) | rfl
  | nilFunc=>cases y <;> first | (cases h; done) | rfl
  | iface t v =>
   cases y <;> first | (cases h; done) | skip
   simp only [sameVal,Bool.and_eq_true] at h
   rw [Nat.eq_of_beq_eq_true h.1,ih _ _ h.2]
  | agg l =>
   cases y <;> first | (cases h; done) | skip
   simp only [sameVal] at h
   rw [arr_eq (sameVals_eq ih h)]
  | tuple l =>
   cases y <;> first | (cases h; done) | skip
   simp only [sameVal] at h
   rw [arr_eq (sameVals_eq ih h)]
  | func f a b =>
   cases y <;> first | (cases h; done) | skip
   simp only [sameVal,Bool.and_eq_true,beq_iff_eq] at h
   rw [h.1,arr_eq (sameVals_eq ih h.2.1),arr_eq (sameVals_eq ih h.2.2)]
  | _=>cases h
end Go.Sh
namespace Go.Sh
open Go
variable {P:Program} {φ:Inj} {A:AW} {w:World}
theorem get_add (A:AW) (o:AObj) (x:Nat):(A.add o).heap.get x=if x=A.next then some o else A.heap.get x:=get_put _ _ _ _
theorem MR.more (hM:MR P φ A w) (o:AObj):MR P φ (A.add o) w:=by
 refine ⟨fun x c n s d hx=>?_,fun x hx=>?_,hM.one,fun x hx=>hM.fresh x (by have:A.next + 1≤x:=hx; omega),hM.globals,Nat.le_trans hM.lim (Nat.le_succ _)⟩
 ·obtain ⟨o1,oc,h1,h2,h3⟩:=hM.obj x c n s d hx
  have e:x ≠ A.next:=fun e=>by have:=hM.fresh x (by omega); rw [this] at hx; cases hx
  exact ⟨o1,oc,by rw [get_add,if_neg e]; exact h1,h2,h3⟩
 ·have e:x ≠ A.next:=fun e=>by have:=hM.fresh x (by omega); rw [this] at hx; cases hx
  rw [get_add,if_neg e]
  exact hM.dead x hx
theorem Ext.more {φ0:Inj} {A0:AW} {w0:World} (e:Ext φ0 A0 w0 φ A w) (hl:A0.lim≤A0.next) (o:AObj):Ext φ0 A0 w0 φ (A.add o) w:=by
 have hn:=e.next
 refine ⟨e.le,e.lim,Nat.le_trans e.next (Nat.le_succ _),fun x hx=>?_,e.size,e.frame,e.new,fun x hx h=>?_,e.os,e.tape,e.output⟩
 ·rw [get_add,if_neg (by omega)]; exact e.low x hx
 ·rw [get_add,if_neg (by omega)]; exact e.idle x hx h
theorem MR.place (hM:MR P φ A w) {b:Nat} (hb:φ b=none) (hlt:b < A.next) {o:AObj} {oc:Obj} {n s:Nat} (hg:A.heap.get b=some o) (ho:OR P φ o oc n s 0) :
  MR P (φ.add b (.at_ w.heap.size n s 0)) A (w.alloc oc):=by
 have hle:φ.le (φ.add b (.at_ w.heap.size n s 0)):=Inj.le_add hb
 have hφ:∀ x,(φ.add b (.at_ w.heap.size n s 0)) x=if x=b then some (.at_ w.heap.size n s 0) else φ x:=fun _=>rfl
 have hlow:∀ x c n s d,φ x=some (.at_ c n s d)→c < w.heap.size:=fun x c n s d hx=>by
  obtain ⟨_,_,_,h,_⟩:=hM.obj _ _ _ _ _ hx
  exact lt_of_heap h
 refine ⟨fun x cx nx sx dx hx=>?_,fun x hx=>?_,fun x y c n1 s1 d1 n2 s2 d2 hx hy=>?_,fun x hx=>?_,fun g hg=>?_,hM.lim⟩
 ·rw [hφ] at hx
  by_cases e:x=b
  ·rw [if_pos e] at hx
   injection hx with hx
   injection hx with e1 e2 e3 e4
   subst e1 e2 e3 e4
   exact ⟨o,oc,e ▸ hg,push_same w oc,ho.mono hle⟩
  ·rw [if_neg e] at hx
   obtain ⟨o1,oc1,h3,h4,h5⟩:=hM.obj _ _ _ _ _ hx
   exact ⟨o1,oc1,h3,by rw [push_old w oc (lt_of_heap h4)]; exact h4,h5.mono hle⟩
 ·rw [hφ] at hx
  by_cases e:x=b
  ·rw [if_pos e] at hx; cases hx
  ·rw [if_neg e] at hx; exact hM.dead x hx
 ·intro hlx
  rw [hφ] at hx hy
  by_cases e:x=b
  ·rw [if_pos e] at hx
   by_cases e':y=b
   ·rw [e,e']
   ·rw [if_neg e'] at hy
    injection hx with hx
    injection hx with e1
    have:=hlow _ _ _ _ _ hy
    omega
  ·rw [if_neg e] at hx
   by_cases e':y=b
   ·rw [if_pos e'] at hy
    injection hy with hy
    injection hy with e1
    have:=hlow _ _ _ _ _ hx
    omega
   ·rw [if_neg e'] at hy
    exact hM.one _ _ _ _ _ _ _ _ _ hx hy hlx
 ·rw [hφ,if_neg (by omega)]
  exact hM.fresh x hx
 ·rw [hφ]
  by_cases e:g=b
  ·rcases hM.globals g hg with h | ⟨n,s,h⟩ <;> rw [e,hb] at h <;> cases h
  ·rw [if_neg e]; exact hM.globals g hg
theorem Ext.place {φ0:Inj} {A0:AW} {w0:World} (e:Ext φ0 A0 w0 φ A w) (hl:A0.lim≤A0.next) {b:Nat} (hb:φ b=none) (hn:A0.next≤b) (oc:Obj) (n s:Nat):Ext φ0 A0 w0 (φ.add b (.at_ w.heap.size n s 0)) A (w.alloc oc):=by
 have hφ:∀ x,(φ.add b (.at_ w.heap.size n s 0)) x=if x=b then some (.at_ w.heap.size n s 0) else φ x:=fun _=>rfl
 have hsz:=e.size
 refine ⟨Inj.le_trans e.le (Inj.le_add hb),e.lim,e.next,fun x hx=>?_,by show w0.heap.size≤(w.heap.push oc).size; simp; omega,fun c hc hu=>?_,fun x c n1 s1 d1 hx=>?_,fun x hx h=>?_,e.os,e.tape,e.output⟩
 ·rw [hφ,if_neg (by omega)]; exact e.low x hx
 ·rw [push_old w oc (by omega)]; exact e.frame c hc hu
 ·rw [hφ] at hx
  by_cases e1:x=b
  ·rw [if_pos e1] at hx
   injection hx with hx
   injection hx with e2
   exact .inr ⟨by omega,.inl (by omega)⟩
  ·rw [if_neg e1] at hx; exact e.new x c n1 s1 d1 hx
 ·rw [hφ,if_neg (by omega)]; exact e.idle x hx h
theorem nodup_le:∀ (l m:List Nat),l.Nodup→(∀ x ∈ l,x ∈ m)→l.length≤m.length
 | [],m,_,_=>Nat.zero_le _
 | x::l,m,hn,hs=>by
  have hx:x ∈ m:=hs x (List.mem_cons_self ..)
  have hn':=List.nodup_cons.1 hn
  have:=nodup_le l (m.erase x) hn'.2 fun y hy=>(List.mem_erase_of_ne (by rintro rfl; exact hn'.1 hy)).2 (hs y (List.mem_cons_of_mem _ hy))
  rw [List.length_erase_of_mem hx] at this
  have h1:0 < m.length:=List.length_pos_of_mem hx
  simp only [List.length_cons]
  omega
theorem nodup_all {l:List Nat} {n:Nat} (hn:l.Nodup) (hs:∀ x ∈ l,x < n) (hl:l.length=n) {j:Nat} (hj:j < n):j ∈ l:=by
 apply Classical.byContradiction
 intro h
 have:=nodup_le l ((List.range n).erase j) hn fun x hx=>(List.mem_erase_of_ne (by rintro rfl; exact h hx)).2 (List.mem_range.2 (hs x hx))
 rw [List.length_erase_of_mem (List.mem_range.2 hj),List.length_range] at this
 omega
theorem fold_bits (acc:Array Nat) (j:Nat):∀ (es:List Edge) (s:Nat),(es.foldl (fun s e=>if Region.binds .any e then s ||| 2 ^ e.on ||| acc.getD e.on 0 else s) s).testBit j=true →
  s.testBit j=true∨∃ e ∈ es,Region.binds .any e=true∧(e.on=j∨(acc.getD e.on 0).testBit j=true)
 | [],s,h=>.inl h
 | e::es,s,h=>by
  simp only [List.foldl_cons] at h
  rcases fold_bits acc j es _ h with h1 | ⟨e',h1,h2⟩
  ·cases hb:Region.binds .any e with
   | false=>rw [hb] at h1; exact .inl (by simpa using h1)
   | true =>
    rw [hb] at h1
    simp only [if_true,Nat.testBit_or,Bool.or_eq_true] at h1
    rcases h1 with (h1 | h1) | h1
    ·exact .inl h1
    ·exact .inr ⟨e,List.mem_cons_self ..,hb,.inl (by
      rw [Nat.testBit_two_pow] at h1
      exact of_decide_eq_true h1)⟩
    ·exact .inr ⟨e,List.mem_cons_self ..,hb,.inr h1⟩
  ·exact .inr ⟨e',List.mem_cons_of_mem _ h1,h2⟩
def stepB (acc:Array Nat) (o:Oper):Array Nat:=acc.push (o.after.toList.foldl (fun s e=>if Region.binds .any e then s ||| 2 ^ e.on ||| acc.getD e.on 0 else s) 0)
theorem before_eq (ops:Array Oper):Region.before ops=ops.toList.foldl stepB #[]:=by
 unfold Region.before
 rw [← Array.foldl_toList]
 congr 1
 funext acc o
 unfold stepB
 rw [← Array.foldl_toList]
def Bits (all:List Oper) (acc:Array Nat):Prop :=
 ∀ i j,(acc.getD i 0).testBit j=true→∃ o e,all[i]?=some o∧e ∈ o.after.toList∧Region.binds .any e=true∧(e.on=j∨(acc.getD e.on 0).testBit j=true)
theorem bits_fold (all:List Oper):∀ (rest:List Oper) (acc:Array Nat),all.drop acc.size=rest→Bits all acc→Bits all (rest.foldl stepB acc)
 | [],acc,_,h=>h
 | o::rest,acc,hr,h=>by
  have ho:all[acc.size]?=some o:=by
   have:(all.drop acc.size)[0]?=some o:=by rw [hr]; rfl
   rw [List.getElem?_drop] at this
   simpa using this
  have hr':all.drop (acc.size + 1)=rest:=by rw [← List.drop_drop (i:=1) (j:=acc.size),hr] <;> rfl
  refine bits_fold all rest (stepB acc o) (by simpa [stepB] using hr') ?_
  have hget:∀ k,(stepB acc o).getD k 0=if k=acc.size then (o.after.toList.foldl (fun s e=>if Region.binds .any e then s ||| 2 ^ e.on ||| acc.getD e.on 0 else s) 0) else acc.getD k 0:=fun k=>by
   unfold stepB
   simp only [Array.getD_eq_getD_getElem?,Array.getElem?_push]
   split <;> rfl
  have hmono:∀ k j,(acc.getD k 0).testBit j=true→((stepB acc o).getD k 0).testBit j=true:=fun k j hk=>by
   rw [hget]
   by_cases e:k=acc.size
   ·subst e
    simp at hk
   ·rw [if_neg e]; exact hk
  intro i j hi
  rw [hget] at hi
  by_cases e:i=acc.size
  ·rw [if_pos e] at hi
   rcases fold_bits acc j _ 0 hi with h1 | ⟨e',h1,h2,h3⟩
   ·simp at h1
   ·exact ⟨o,e',e ▸ ho,h1,h2,h3.imp id (hmono _ _)⟩
  ·rw [if_neg e] at hi
   obtain ⟨o',e',h1,h2,h3,h4⟩:=h i j hi
   exact ⟨o',e',h1,h2,h3,h4.imp id (hmono _ _)⟩
theorem bitOf_getD (b:Array Nat) (i j:Nat):bitOf b.toList i j=(b.getD i 0).testBit j:=by
 unfold bitOf
 rw [nth_eq,Array.getElem?_toList,Array.getD_eq_getD_getElem?]
 cases b[i]? with
 | none=>simp
 | some m=>rfl
theorem bit_edge {ops:Array Oper} {i j:Nat} (h:bitOf (Region.before ops).toList i j=true) :
  ∃ o e,ops.toList[i]?=some o∧e ∈ o.after.toList∧Region.binds .any e=true∧(e.on=j∨bitOf (Region.before ops).toList e.on j=true):=by
 have hb:Bits ops.toList (Region.before ops):=by
  rw [before_eq]
  exact bits_fold ops.toList ops.toList #[] rfl fun i j h=>by simp at h
 rw [bitOf_getD] at h
 obtain ⟨o,e,h1,h2,h3,h4⟩:=hb i j h
 exact ⟨o,e,h1,h2,h3,h4.imp id fun h=>by rw [bitOf_getD]; exact h⟩
end Go.Sh
namespace Go.Sh
open Go
variable {P:Program} {φ:Inj} {A:AW} {w:World}
theorem ordGo_ok {all:List Oper} {b:List Nat}:∀ (rest:List Nat) (seen:Nat) (acts:List Nat),ordGo P all b rest seen acts=true→∀ (k i:Nat),rest[k]?=some i →
  ∃ o,all[i]?=some o∧seen.testBit i=false∧(∀ k':Nat,k' < k→rest[k']? ≠ some i)∧(∀ e ∈ o.after.toList,Region.binds .any e=true→seen.testBit e.on=true∨∃ k':Nat,k' < k∧rest[k']?=some e.on) ∧
   (isAct P o.op=false→(∀ a ∈ acts,bitOf b i a=true)∧∀ (k' a:Nat) (oa:Oper),k' < k→rest[k']?=some a→all[a]?=some oa→isAct P oa.op=true→bitOf b i a=true)
 | [],_,_,_,k,i,hk=>by simp at hk
 | i0::rest,seen,acts,h,k,i,hk=>by
  unfold ordGo at h
  rw [nth_eq] at h
  cases ho:all[i0]? with
  | none=>rw [ho] at h; cases h
  | some o0 =>
   rw [ho] at h
   simp only [Bool.and_eq_true] at h
   obtain ⟨⟨h1,h2⟩,h3⟩:=h
   have h1:seen.testBit i0=false:=by simpa using h1
   have h2':∀ e ∈ o0.after.toList,Region.binds .any e=true→seen.testBit e.on=true:=fun e he hb=>by
    have:=(List.all_eq_true.1 h2) e he
    rw [hb] at this
    simpa using this
   have hact:isAct P o0.op=false→∀ a ∈ acts,bitOf b i0 a=true:=fun e=>by
    rw [e] at h3
    simp only [cond_false,Bool.and_eq_true] at h3
    exact List.all_eq_true.1 h3.1
   have hrest:ordGo P all b rest (seen ||| 2 ^ i0) (if isAct P o0.op=true then i0::acts else acts)=true:=by
    cases e:isAct P o0.op with
    | true=>rw [e] at h3; simpa using h3
    | false=>rw [e] at h3; simp only [cond_false,Bool.and_eq_true] at h3; simpa using h3.2
   cases k with
   | zero =>
    simp only [List.getElem?_cons_zero,Option.some.injEq] at hk
    subst hk
    exact ⟨o0,ho,h1,fun k' hk'=>absurd hk' (Nat.not_lt_zero _),fun e he hb=>.inl (h2' e he hb),fun e=>⟨hact e,fun k' a oa hk'=>absurd hk' (Nat.not_lt_zero _)⟩⟩
   | succ k =>
    rw [List.getElem?_cons_succ] at hk
    obtain ⟨o,g1,g2,g3,g4,g5⟩:=ordGo_ok rest _ _ hrest k i hk
    have g2':seen.testBit i=false∧i0 ≠ i:=by
     rw [Nat.testBit_or,Nat.testBit_two_pow] at g2
     simp only [Bool.or_eq_false_iff,decide_eq_false_iff_not] at g2
     exact g2
    refine ⟨o,g1,g2'.1,fun k' hk'=>?_,fun e he hb=>?_,fun e=>?_⟩
    ·cases k' with
     | zero=>simpa using g2'.2
     | succ k'=>rw [List.getElem?_cons_succ]; exact g3 k' (by omega)
    ·rcases g4 e he hb with h5 | ⟨k',h5,h6⟩
     ·rw [Nat.testBit_or,Nat.testBit_two_pow,Bool.or_eq_true] at h5
      rcases h5 with h5 | h5
      ·exact .inl h5
      ·exact .inr ⟨0,Nat.succ_pos _,by rw [List.getElem?_cons_zero,of_decide_eq_true h5]⟩
     ·exact .inr ⟨k' + 1,by omega,by rw [List.getElem?_cons_succ]; exact h6⟩
    ·obtain ⟨q1,q2⟩:=g5 e
     refine ⟨fun a ha=>q1 a ?_,fun k' a oa hk' hka hoa hact'=>?_⟩
     ·split
      ·exact List.mem_cons_of_mem _ ha
      ·exact ha
     ·cases k' with
      | zero =>
       simp only [List.getElem?_cons_zero,Option.some.injEq] at hka
       subst hka
       rw [ho] at hoa
       cases hoa
       exact q1 _ (by rw [if_pos hact']; exact List.mem_cons_self ..)
      | succ k'=>exact q2 k' a oa (by omega) (by rw [List.getElem?_cons_succ] at hka; exact hka) hoa hact'
structure StatD (P:Program) (all:List Oper) (b ord:List Nat):Prop where
 len:ord.length=all.length
 op:∀ (p i:Nat),ord[p]?=some i→∃ o,all[i]?=some o
 inj:∀ (p p' i:Nat),ord[p]?=some i→ord[p']?=some i→p=p'
 surj:∀ (i:Nat) (o:Oper),all[i]?=some o→∃ p:Nat,ord[p]?=some i
 edge:∀ (p i:Nat) (o:Oper) (e:Edge),ord[p]?=some i→all[i]?=some o→e ∈ o.after.toList→Region.binds .any e=true→∃ p':Nat,p' < p∧ord[p']?=some e.on
 line:∀ (p i j:Nat),ord[p]?=some i→bitOf b i j=true→∃ p':Nat,p' < p∧ord[p']?=some j
 asap:∀ (p i:Nat) (o:Oper) (p' a:Nat) (oa:Oper),ord[p]?=some i→all[i]?=some o→isAct P o.op=false→p' < p→ord[p']?=some a→all[a]?=some oa→isAct P oa.op=true→bitOf b i a=true
 acts:∀ (i j:Nat) (oi oj:Oper),all[i]?=some oi→all[j]?=some oj→i ≠ j→isAct P oi.op=true→isAct P oj.op=true→bitOf b i j=true∨bitOf b j i=true
 dst:∀ (i j:Nat) (oi oj:Oper) (d:Tmp),all[i]?=some oi→all[j]?=some oj→i ≠ j→oi.dst=some d→oj.dst ≠ some d
 look:∀ (i j:Nat) (oi oj:Oper) (d:Tmp),all[i]?=some oi→all[j]?=some oj→i ≠ j→oi.dst=some d→looks all oj d=true→bitOf b i j=true∨bitOf b j i=true
 clean:∀ (i j:Nat) (oi oj:Oper) (d:Tmp),all[i]?=some oi→all[j]?=some oj→i ≠ j→oi.dst=some d→looks all oj d=true→kindOf P oj.op=1→bitOf b j i=true
 self:∀ (i:Nat) (oi:Oper) (d:Tmp),all[i]?=some oi→oi.dst=some d→kindOf P oi.op=1→looks all oi d=false
theorem isDst_some {d:Tmp} {x:Option Tmp}:isDst d x=true ↔ x=some d:=by
 cases x with
 | none=>simp [isDst]
 | some e =>
  simp only [isDst]
  refine ⟨fun h=>by rw [Nat.eq_of_beq_eq_true h],fun h=>by cases h; exact Nat.beq_refl _⟩
theorem stat_of {ops:Array Oper} {ord:List Nat} (h:drawOk P ops.toList (Region.before ops).toList ord=true):StatD P ops.toList (Region.before ops).toList ord:=by
 generalize hall:ops.toList=all at h
 unfold drawOk at h
 simp only [Bool.and_eq_true] at h
 obtain ⟨h1,h2⟩:=h
 unfold ordOk at h1
 simp only [Bool.and_eq_true,lenL0] at h1
 obtain ⟨h0,h1⟩:=h1
 have hlen:=Nat.eq_of_beq_eq_true h0
 have hgo:=ordGo_ok (P:=P) ord 0 [] h1
 have hop:∀ (p i:Nat),ord[p]?=some i→∃ o,all[i]?=some o:=fun p i hp=>by obtain ⟨o,g,_⟩:=hgo p i hp; exact ⟨o,g⟩
 have hedge:∀ (p i:Nat) (o:Oper) (e:Edge),ord[p]?=some i→all[i]?=some o→e ∈ o.after.toList→Region.binds .any e=true→∃ p':Nat,p' < p∧ord[p']?=some e.on:=fun p i o e hp ho he hb=>by
  obtain ⟨o',g1,_,_,g4,_⟩:=hgo p i hp
  rw [ho] at g1
  cases g1
  rcases g4 e he hb with g | g
  ·simp at g
  ·exact g
 have hpair:∀ (i j:Nat) (oi oj:Oper),all[i]?=some oi→all[j]?=some oj→pairOk P all (Region.before ops).toList (oi,i) (oj,j)=true:=fun i j oi oj hi hj =>
  List.all_eq_true.1 (List.all_eq_true.1 h2 (oi,i) (List.mem_zipIdx_iff_getElem?.2 hi)) (oj,j) (List.mem_zipIdx_iff_getElem?.2 hj)
 have hpair2:∀ (i j:Nat) (oi oj:Oper),all[i]?=some oi→all[j]?=some oj→i ≠ j→(bif isAct P oi.op && isAct P oj.op then ordered (Region.before ops).toList i j else true)=true ∧
   (∀ d,oi.dst=some d→isDst d oj.dst=false∧(bif looks all oj d then (bif Nat.beq (kindOf P oj.op) 1 then bitOf (Region.before ops).toList j i else ordered (Region.before ops).toList i j) else true)=true):=fun i j oi oj hi hj hne=>by
  have:=hpair i j oi oj hi hj
  unfold pairOk at this
  have hb:Nat.beq i j=false:=by
   cases hb:Nat.beq i j with
   | false=>rfl
   | true=>exact absurd (Nat.eq_of_beq_eq_true hb) hne
  simp only [hb,cond_false,Bool.and_eq_true] at this
  refine ⟨this.1,fun d hd=>?_⟩
  have h3:=this.2
  rw [hd] at h3
  simp only [Bool.and_eq_true] at h3
  exact ⟨by simpa using h3.1,h3.2⟩
 have hnd:ord.Nodup:=by
  refine List.pairwise_iff_getElem.2 fun k k' hk hk' hlt he=>?_
  obtain ⟨_,_,_,g,_⟩:=hgo k' ord[k'] (List.getElem?_eq_getElem hk')
  exact g k hlt (by rw [List.getElem?_eq_getElem hk,he])
 have hinj:∀ (p p' i:Nat),ord[p]?=some i→ord[p']?=some i→p=p':=fun p p' i hp hp'=>by
  rcases Nat.lt_trichotomy p p' with h | h | h
  ·obtain ⟨_,_,_,g,_⟩:=hgo p' i hp'; exact absurd hp (g p h)
  ·exact h
  ·obtain ⟨_,_,_,g,_⟩:=hgo p i hp; exact absurd hp' (g p' h)
 refine ⟨hlen,hop,hinj,fun i o hi=>?_,hedge,?_,fun p i o p' a oa hp ho hna hlt ha hoa hact=>?_,fun i j oi oj hi hj hne h3 h4=>?_,fun i j oi oj d hi hj hne hd he=>?_,fun i j oi oj d hi hj hne hd hl=>?_,fun i j oi oj d hi hj hne hd hl hk=>?_,fun i oi d hi hd hk=>?_⟩
 ·have hlt:i < all.length:=(List.getElem?_eq_some_iff.1 hi).1
  have hm:=nodup_all hnd (fun x hx=>by
   obtain ⟨p,hp⟩:=List.mem_iff_getElem?.1 hx
   obtain ⟨o,ho⟩:=hop p x hp
   exact (List.getElem?_eq_some_iff.1 ho).1) hlen hlt
  exact List.mem_iff_getElem?.1 hm
 ·intro p
  induction p using Nat.strongRecOn with
  | _ p ih =>
   intro i j hp hb
   obtain ⟨o,e,g1,g2,g3,g4⟩:=bit_edge hb
   rw [hall] at g1
   obtain ⟨p',g5,g6⟩:=hedge p i o e hp g1 g2 g3
   rcases g4 with g4 | g4
   ·exact ⟨p',g5,g4 ▸ g6⟩
   ·obtain ⟨p2,g7,g8⟩:=ih p' g5 e.on j g6 g4
    exact ⟨p2,by omega,g8⟩
 ·obtain ⟨o',g1,_,_,_,g5⟩:=hgo p i hp
  rw [ho] at g1
  cases g1
  exact (g5 hna).2 p' a oa hlt ha hoa hact
 ·have:=(hpair2 i j oi oj hi hj hne).1
  rw [h3,h4] at this
  simp only [Bool.and_self,cond_true,ordered,Bool.or_eq_true] at this
  exact this.symm.imp id id |>.symm
 ·have:=((hpair2 i j oi oj hi hj hne).2 d hd).1
  rw [isDst_some.2 he] at this
  cases this
 ·have:=((hpair2 i j oi oj hi hj hne).2 d hd).2
  rw [hl] at this
  simp only [cond_true] at this
  cases hk:Nat.beq (kindOf P oj.op) 1 with
  | true=>rw [hk] at this; exact .inr this
  | false=>rw [hk] at this; simpa [ordered] using this
 ·have:=((hpair2 i j oi oj hi hj hne).2 d hd).2
  rw [hl,hk] at this
  exact this
 ·have:=hpair i i oi oi hi hi
  unfold pairOk at this
  simp only [Nat.beq_refl,cond_true,hd,hk] at this
  simpa using this
end Go.Sh
namespace Go.Sh
open Go
variable {P:Program} {φ:Inj} {A:AW} {w:World}
def ActOut (P:Program) (r:Rec) (o:Oper) (t:Tm) (A:AW) (v:Value) (A':AW):Prop :=
 (opS P o.type o.op).val t A=.val v A'∨(∃ f args A1 x2,(opS P o.type o.op).val t A=.enter f args A1∧r.call f args A1 .none=.ok (.ret v) A' x2)∨∃ l args A1 b,(opS P o.type o.op).val t A=.yield l args A1∧yieldA r l args A1=.val b A'∧v=.bool b
def ActPan (P:Program) (r:Rec) (o:Oper) (t:Tm) (A:AW) (v:Value) (A':AW):Prop :=
 (opS P o.type o.op).val t A=.panic v A'∨(∃ f args A1 x2,(opS P o.type o.op).val t A=.enter f args A1∧r.call f args A1 .none=.ok (.panic v) A' x2)∨∃ l args A1,(opS P o.type o.op).val t A=.yield l args A1∧yieldA r l args A1=.panic v A'
inductive StepT (P:Program) (r:Rec) (all:List Oper) (o:Oper) (t:Tm) (A:AW):Value→AW→Prop
 | off (h:(guardS all o.guard).val t=some false):StepT P r all o t A undef A
 | quiet {v:Value} {A':AW} (h:(guardS all o.guard).val t=some true) (hk:isAct P o.op=false) (hv:(opS P o.type o.op).val t A=.val v A'):StepT P r all o t A v A'
 | act {v:Value} {A':AW} (h:(guardS all o.guard).val t=some true) (hk:isAct P o.op=true) (hv:ActOut P r o t A v A'):StepT P r all o t A v A'
structure RunD (P:Program) (r:Rec) (n:Nat) (all:List Oper) (b pre ord:List Nat) (M:Nat) (tp:Nat→Tm) (Ap:Nat→AW) (vp:Nat→Value):Prop where
 le:M≤ord.length
 step:∀ p:Nat,p < M→∃ i o,ord[p]?=some i∧all[i]?=some o∧operOk P n o=true∧StepT P r all o (tp p) (Ap p) (vp p) (Ap (p + 1))∧tp (p + 1)=(putDst o.dst).val (vp p) (tp p)
 again:∀ q:Nat,q≤M→(q=ord.length∨∃ i o,ord[q]?=some i∧all[i]?=some o∧isAct P o.op=true)→(againAll P all (againAt P all b ((ord.take q).reverse++pre) false [])).val (tp q) (Ap q)=true
def EndD (P:Program) (r:Rec) (n:Nat) (all:List Oper) (ord:List Nat) (M:Nat) (tp:Nat→Tm) (Ap:Nat→AW) (ex:Ex) (t':Tm) (A':AW):Prop :=
 (ex=.normal∧M=ord.length∧t'=tp M∧A'=Ap M) ∨
 ∃ v i o,ex=.panic v∧ord[M]?=some i∧all[i]?=some o∧operOk P n o=true∧isAct P o.op=true∧(guardS all o.guard).val (tp M)=some true∧ActPan P r o (tp M) (Ap M) v A'∧t'=junkAll all (tp M)
def shift {α:Type} (a:α) (f:Nat→α):Nat→α
 | 0=>a
 | n + 1=>f n
theorem drawS_run {r:Rec} {n:Nat} {all:List Oper} {b:List Nat}:∀ (rest pre:List Nat) (t:Tm) (ds:List Deferred) (A:AW) (x:Ctx) (ex:Ex) (t':Tm) (ds':List Deferred) (A':AW) (x':Ctx),
  (drawS P n all b pre rest).val r t ds A x=.ok ex t' ds' A' x'→ds'=ds∧x'=x∧∃ M tp Ap vp,tp 0=t∧Ap 0=A∧RunD P r n all b pre rest M tp Ap vp∧EndD P r n all rest M tp Ap ex t' A'
 | [],pre,t,ds,A,x,ex,t',ds',A',x',h=>by
  unfold drawS at h
  simp only at h
  cases hg:(againAll P all (againAt P all b pre false [])).val t A with
  | false=>rw [hg] at h; cases h
  | true =>
   rw [hg] at h
   cases h
   refine ⟨rfl,rfl,0,fun _=>t,fun _=>A,fun _=>undef,rfl,rfl,⟨Nat.le_refl _,fun p hp=>absurd hp (Nat.not_lt_zero _),fun q hq _=>?_⟩,.inl ⟨rfl,rfl,rfl,rfl⟩⟩
   have:q=0:=Nat.le_zero.1 hq
   subst this
   exact hg
 | i::rest,pre,t,ds,A,x,ex,t',ds',A',x',h=>by
  unfold drawS at h
  rw [nth_eq] at h
  cases ho:all[i]? with
  | none=>rw [ho] at h; cases h
  | some o =>
   rw [ho] at h
   simp only at h
   cases hok:operOk P n o with
   | false=>rw [hok] at h; cases h
   | true =>
    rw [hok] at h
    simp only [cond_true] at h
    -- the rest, behind a step
    have next:∀ (v:Value) (A1:AW),StepT P r all o t A v A1→(isAct P o.op=true→(againAll P all (againAt P all b pre false [])).val t A=true) →
      (drawS P n all b (i::pre) rest).val r ((putDst o.dst).val v t) ds A1 x=.ok ex t' ds' A' x' →
      ds'=ds∧x'=x∧∃ M tp Ap vp,tp 0=t∧Ap 0=A∧RunD P r n all b pre (i::rest) M tp Ap vp∧EndD P r n all (i::rest) M tp Ap ex t' A':=by
     intro v A1 hs hag hr
     obtain ⟨e1,e2,M,tp,Ap,vp,h1,h2,h3,h4⟩:=drawS_run rest (i::pre) _ ds A1 x ex t' ds' A' x' hr
     refine ⟨e1,e2,M + 1,shift t tp,shift A Ap,shift v vp,rfl,rfl,⟨Nat.succ_le_succ h3.le,fun p hp=>?_,fun q hq hc=>?_⟩,?_⟩
     ·cases p with
      | zero=>exact ⟨i,o,rfl,ho,hok,by show StepT P r all o t A v (Ap 0); rw [h2]; exact hs,h1⟩
      | succ p=>exact h3.step p (by omega)
     ·cases q with
      | zero =>
       rcases hc with hc | ⟨i',o',g1,g2,g3⟩
       ·simp at hc
       ·simp only [List.getElem?_cons_zero,Option.some.injEq] at g1
        subst g1
        rw [ho] at g2
        cases g2
        exact hag g3
      | succ q =>
       have:=h3.again q (by omega) (hc.imp (fun h=>by simpa using h) fun ⟨i',o',g⟩=>⟨i',o',by simpa using g⟩)
       show (againAll P all (againAt P all b (((i::rest).take (q + 1)).reverse++pre) false [])).val (tp q) (Ap q)=true
       rw [List.take_succ_cons,List.reverse_cons,List.append_assoc]
       exact this
     ·rcases h4 with ⟨g1,g2,g3,g4⟩ | ⟨v',i',o',g1,g2,g3⟩
      ·exact .inl ⟨g1,by simp [g2],g3,g4⟩
      ·exact .inr ⟨v',i',o',g1,by rw [List.getElem?_cons_succ]; exact g2,g3⟩
    cases hact:isAct P o.op with
    | false =>
     rw [hact] at h
     simp only [cond_false,drawQ,drawG] at h
     cases hg:(guardS all o.guard).val t with
     | none=>rw [hg] at h; cases h
     | some g =>
      rw [hg] at h
      cases g with
      | false=>exact next undef A (.off hg) (fun e=>by rw [hact] at e; cases e) h
      | true =>
       simp only [cond_true] at h
       cases hv:(opS P o.type o.op).val t A with
       | val v A1=>rw [hv] at h; exact next v A1 (.quiet hg hact hv) (fun e=>by rw [hact] at e; cases e) h
       | _=>rw [hv] at h; cases h
    | true =>
     rw [hact] at h
     simp only [cond_true,drawA] at h
     cases hag:(againAll P all (againAt P all b pre false [])).val t A with
     | false=>rw [hag] at h; cases h
     | true =>
      rw [hag] at h
      simp only [cond_true,drawG] at h
      cases hg:(guardS all o.guard).val t with
      | none=>rw [hg] at h; cases h
      | some g =>
       rw [hg] at h
       -- a panic
       have bad:∀ (v:Value) (A1:AW),ActPan P r o t A v A1→g=true→RC.ok (.panic v) (junkAll all t) ds A1 x=.ok ex t' ds' A' x' →
         ds'=ds∧x'=x∧∃ M tp Ap vp,tp 0=t∧Ap 0=A∧RunD P r n all b pre (i::rest) M tp Ap vp∧EndD P r n all (i::rest) M tp Ap ex t' A':=by
        intro v A1 hp hgt he
        cases he
        refine ⟨rfl,rfl,0,fun _=>t,fun _=>A,fun _=>undef,rfl,rfl,⟨Nat.zero_le _,fun p hp=>absurd hp (Nat.not_lt_zero _),fun q hq _=>?_⟩,.inr ⟨v,i,o,rfl,rfl,ho,hok,hact,hgt ▸ hg,hp,rfl⟩⟩
        have:q=0:=Nat.le_zero.1 hq
        subst this
        exact hag
       cases g with
       | false=>exact next undef A (.off hg) (fun _=>hag) h
       | true =>
        simp only [cond_true] at h
        cases hv:(opS P o.type o.op).val t A with
        | val v A1=>rw [hv] at h; exact next v A1 (.act hg hact (.inl hv)) (fun _=>hag) h
        | panic v A1=>rw [hv] at h; exact bad v A1 (.inl hv) rfl h
        | enter f args A1 =>
         rw [hv] at h
         simp only [drawN] at h
         cases hc:r.call f args A1 .none with
         | fail=>rw [hc] at h; cases h
         | ok out A2 x2 =>
          rw [hc] at h
          cases out with
          | ret v=>exact next v A2 (.act hg hact (.inr (.inl ⟨f,args,A1,x2,hv,hc⟩))) (fun _=>hag) h
          | panic v=>exact bad v A2 (.inr (.inl ⟨f,args,A1,x2,hv,hc⟩)) rfl h
        | yield l args A1 =>
         rw [hv] at h
         simp only [drawN] at h
         cases hc:yieldA r l args A1 with
         | fail=>rw [hc] at h; cases h
         | val b A2=>rw [hc] at h; exact next (.bool b) A2 (.act hg hact (.inr (.inr ⟨l,args,A1,b,hv,hc,rfl⟩))) (fun _=>hag) h
         | panic v A2=>rw [hc] at h; exact bad v A2 (.inr (.inr ⟨l,args,A1,hv,hc⟩)) rfl h
        | _=>rw [hv] at h; cases h
end Go.Sh
namespace Go.Sh
open Go
variable {P:Program} {φ:Inj} {A:AW} {w:World}
theorem dst_bound {n:Nat} {d:Tmp} (h:dstOk n (some d)=true):d < n∧n≤60000:=by
 simp only [dstOk,Bool.and_eq_true] at h
 have e1:d < n:=by simpa [Nat.blt_eq] using h.1
 have e2:=h.2
 exact ⟨e1,by first | exact Nat.le_of_ble_eq_true e2 | (have:n < 60000:=by simpa [Nat.blt_eq] using e2; omega)⟩
theorem tget_put {n:Nat} {x:Option Tmp} (h:dstOk n x=true) (v:Value) (t:Tm) (d:Tmp):tget ((putDst x).val v t) d=if x=some d then v else tget t d:=by
 cases x with
 | none=>rfl
 | some e =>
  obtain ⟨h1,h2⟩:=dst_bound h
  show tget (tset t e v) d=_
  rw [tget_tset t e v d (Nat.le_trans (Nat.le_of_lt h1) h2)]
  by_cases hd:d=e
  ·subst hd; simp
  ·rw [if_neg hd,if_neg (fun h=>hd (Option.some.inj h).symm)]
theorem isTmp_some {d:Tmp}:isTmp d (.tmp d)=true:=Nat.beq_refl d
theorem looks_operand {all:List Oper} {o:Oper} {d:Tmp} (h:Operand.tmp d ∈ o.op.operands.toList):looks all o d=true:=by
 unfold looks
 rw [Bool.or_eq_true]
 exact .inl (List.any_eq_true.2 ⟨_,h,isTmp_some⟩)
theorem same_of {all:List Oper} {o:Oper} {t t':Tm} (h:∀ d,looks all o d=true→tget t d=tget t' d):Same t t' o.op.operands.toList:=fun x hx =>
 evS_congr fun d hd=>h d (looks_operand (hd ▸ hx))
theorem guardS_congr {all:List Oper} {o:Oper} {t t':Tm} (h:∀ d,looks all o d=true→tget t d=tget t' d):(guardS all o.guard).val t=(guardS all o.guard).val t':=by
 unfold guardS
 cases hg:o.guard with
 | none=>rfl
 | some p =>
  simp only
  cases hn:nth all p.1 with
  | none=>rfl
  | some q =>
   simp only
   cases hd:q.dst with
   | none=>rfl
   | some d =>
    show isB p.2 (tget t d)=isB p.2 (tget t' d)
    rw [h d]
    unfold looks
    rw [hg]
    simp only [hn,hd,Bool.or_eq_true]
    exact .inr (isDst_some.2 rfl)
theorem new_syn {o:Oper} (hk:kindOf P o.op=3) {t:Tm} {A0 A':AW} {v:Value} (h:(opS P o.type o.op).val t A0=.val v A') :
  ∃ b f,∀ B,(opS P o.type o.op).val t B=newR B b f:=by
 obtain ⟨dst,op,type,pos,after,guard⟩:=o
 simp only at hk h ⊢
 cases op with
 | alloc e =>
  have h':allocA P A0 e=.val v A':=h
  unfold allocA at h'
  cases hz:zeroA P e with
  | none=>rw [hz] at h'; cases h'
  | some z=>exact ⟨_,_,fun B=>by show allocA P B e=_; unfold allocA; rw [hz]⟩
 | box e x=>exact ⟨_,_,fun B=>rfl⟩
 | buildSlice ty len parts =>
  have h':buildSliceA P A0 ty len ((evP parts.toList).val t)=.val v A':=h
  show ∃ b f,∀ B,buildSliceA P B ty len ((evP parts.toList).val t)=newR B b f
  unfold buildSliceA at h' ⊢
  cases he:elemA P ty with
  | none=>rw [he] at h'; cases h'
  | some e =>
   rw [he] at h'
   simp only at h' ⊢
   cases hs:szOf P e with
   | none=>rw [hs] at h'; cases h'
   | some size =>
    rw [hs] at h'
    simp only at h' ⊢
    cases hz:zeroA P e with
    | none=>rw [hz] at h'; cases h'
    | some z =>
     rw [hz] at h'
     simp only at h' ⊢
     cases hb:Nat.ble (len * size) 1000000 with
     | false=>rw [hb] at h'; cases h'
     | true =>
      rw [hb] at h'
      simp only [cond_true,rowR] at h' ⊢
      cases hf:fillA (rowAt size) (repl (cellsOf z) len) ((evP parts.toList).val t) with
      | none=>rw [hf] at h'; cases h'
      | some cs=>exact ⟨_,_,fun B=>rfl⟩
 | makeMap ty r=>cases r with
  | none=>exact ⟨_,_,fun B=>rfl⟩
  | some x=>cases h
 | makeSlice ty l c =>
  have h':makeSliceA P A0 ty ((evS l).val t) ((evS c).val t)=.val v A':=h
  show ∃ b f,∀ B,makeSliceA P B ty ((evS l).val t) ((evS c).val t)=newR B b f
  unfold makeSliceA at h' ⊢
  cases he:elemA P ty with
  | none=>rw [he] at h'; cases h'
  | some e =>
   rw [he] at h'
   simp only at h' ⊢
   cases hn:natA ((evS l).val t) with
   | none=>rw [hn] at h'; cases h'
   | some n =>
    rw [hn] at h'
    simp only at h' ⊢
    cases hm:natA ((evS c).val t) with
    | none=>rw [hm] at h'; cases h'
    | some m =>
     rw [hm] at h'
     simp only [makeSliceB] at h' ⊢
     cases hz:zeroA P e with
     | none=>rw [hz] at h'; cases h'
     | some z =>
      rw [hz] at h'
      simp only at h' ⊢
      cases hb:(Nat.ble n m && (Nat.ble m 1000000 && smallT P e)) with
      | false=>rw [hb] at h'; cases h'
      | true=>exact ⟨_,_,fun B=>rfl⟩
 | binOp op ty x y yt=>cases op <;> cases hk
 | convert s d x =>
  unfold kindOf at hk
  simp only at hk
  split at hk <;> cases hk
 | call c =>
  obtain ⟨callee,args,ats⟩:=c
  cases callee with
  | builtin b=>cases b <;> cases hk
  | _=>cases hk
 | _=>cases hk
theorem kind_le (o:Op):kindOf P o=0∨kindOf P o=1∨kindOf P o=2∨kindOf P o=3:=by
 cases o with
 | binOp op _ _ _ _=>cases op <;> simp [kindOf,kindE]
 | convert s d x=>unfold kindOf; simp only; split <;> simp
 | call c =>
  obtain ⟨callee,args,ats⟩:=c
  cases callee with
  | builtin b=>cases b <;> simp [kindOf,kindB]
  | _=>simp [kindOf]
 | _=>simp [kindOf]
theorem isAct_iff {o:Op}:isAct P o=true ↔ kindOf P o=2:=⟨fun h=>Nat.eq_of_beq_eq_true h,fun h=>by unfold isAct; rw [h]; rfl⟩
section run
variable {r:Rec} {n:Nat} {all:List Oper} {b ord:List Nat} {M:Nat} {tp:Nat→Tm} {Ap:Nat→AW} {vp:Nat→Value}
theorem RunD.tp_some (S:StatD P all b ord) (R:RunD P r n all b [] ord M tp Ap vp) {p i:Nat} {o:Oper} {d:Tmp} (hp:ord[p]?=some i) (ho:all[i]?=some o) (hd:o.dst=some d):∀ q:Nat,q≤M→p < q→tget (tp q) d=vp p
 | 0,_,h=>absurd h (Nat.not_lt_zero _)
 | q + 1,hq,h=>by
  obtain ⟨i',o',g1,g2,g3,_,g5⟩:=R.step q (by omega)
  have hdst:=(operOk_some g3).1
  rw [g5,tget_put hdst]
  by_cases e:p=q
  ·subst e
   rw [hp] at g1
   cases g1
   rw [ho] at g2
   cases g2
   rw [if_pos hd]
  ·have hne:i ≠ i':=fun e'=>e (S.inj p q i hp (e' ▸ g1))
   rw [if_neg (S.dst i i' o o' d ho g2 hne hd)]
   exact R.tp_some S hp ho hd q (by omega) (by omega)
theorem RunD.tp_none (R:RunD P r n all b [] ord M tp Ap vp) {d:Tmp}:∀ q:Nat,q≤M→(∀ (p i:Nat) (o:Oper),p < q→ord[p]?=some i→all[i]?=some o→o.dst ≠ some d)→tget (tp q) d=tget (tp 0) d
 | 0,_,_=>rfl
 | q + 1,hq,h=>by
  obtain ⟨i',o',g1,g2,g3,_,g5⟩:=R.step q (by omega)
  rw [g5,tget_put (operOk_some g3).1,if_neg (h q i' o' (Nat.lt_succ_self _) g1 g2)]
  exact R.tp_none q (by omega) fun p i o hp=>h p i o (by omega)
theorem RunD.quiet (R:RunD P r n all b [] ord M tp Ap vp) {p i:Nat} {o:Oper} (hp:p < M) (hi:ord[p]?=some i) (ho:all[i]?=some o) (hn:isAct P o.op=false) :
  operOk P n o=true∧(((guardS all o.guard).val (tp p)=some false∧vp p=undef∧Ap (p + 1)=Ap p) ∨
   ((guardS all o.guard).val (tp p)=some true∧(opS P o.type o.op).val (tp p) (Ap p)=.val (vp p) (Ap (p + 1)) ∧
    ((kindOf P o.op ≠ 3∧Ap (p + 1)=Ap p)∨(kindOf P o.op=3∧∃ bk f,(∀ B,(opS P o.type o.op).val (tp p) B=newR B bk f)∧Ap (p + 1)=(Ap p).add bk)))):=by
 obtain ⟨i',o',g1,g2,g3,g4,_⟩:=R.step p hp
 rw [hi] at g1
 cases g1
 rw [ho] at g2
 cases g2
 refine ⟨g3,?_⟩
 generalize hA:Ap (p + 1)=A1 at g4 ⊢
 generalize hv:vp p=v at g4 ⊢
 cases g4 with
 | off h=>exact .inl ⟨h,rfl,rfl⟩
 | act h hk _=>rw [hn] at hk; cases hk
 | quiet h hk hv =>
  refine .inr ⟨h,hv,?_⟩
  rcases kind_le (P:=P) o.op with h0 | h0 | h0 | h0
  ·exact .inl ⟨by omega,(quiet_op h0 o.type (tp p) (Ap p) (Ap p) _ _ hv).1⟩
  ·exact .inl ⟨by omega,read_op h0 o.type (tp p) (Ap p) _ _ hv⟩
  ·rw [isAct_iff.2 h0] at hk; cases hk
  ·obtain ⟨bk,f,hB⟩:=new_syn h0 hv
   refine .inr ⟨h0,bk,f,hB,?_⟩
   rw [hB] at hv
   cases hv
   rfl
end run
theorem againAt_mem {all:List Oper} {b:List Nat} {i:Nat} {o:Oper} (ho:all[i]?=some o) (hk:kindOf P o.op=1) (l2:List Nat):∀ (l1:List Nat) (dirty:Bool) (acts:List Nat),
  (∀ j ∈ l1,∃ oj,all[j]?=some oj)→(dirty=true∨∃ j ∈ l1,∃ oj,all[j]?=some oj∧2≤kindOf P oj.op)→(∀ a ∈ acts,bitOf b a i=false)→(∀ a ∈ l1,∀ oa,all[a]?=some oa→isAct P oa.op=true→bitOf b a i=false) →
  i ∈ againAt P all b (l1++i::l2) dirty acts
 | [],dirty,acts,_,h2,h3,_=>by
  rcases h2 with h2 | ⟨j,hj,_⟩
  ·unfold againAt
   simp only [List.nil_append,nth_eq,ho,hk,h2,Bool.true_and]
   have:acts.any (fun a=>bitOf b a i)=false:=by
    rw [List.any_eq_false]
    intro a ha
    rw [h3 a ha]
    simp
   rw [this]
   simp
  ·cases hj
 | j::l1,dirty,acts,h1,h2,h3,h4=>by
  obtain ⟨oj,hj⟩:=h1 j (List.mem_cons_self ..)
  have h1':∀ j ∈ l1,∃ oj,all[j]?=some oj:=fun x hx=>h1 x (List.mem_cons_of_mem _ hx)
  have h4':∀ a ∈ l1,∀ oa,all[a]?=some oa→isAct P oa.op=true→bitOf b a i=false:=fun a ha=>h4 a (List.mem_cons_of_mem _ ha)
  have h2':kindOf P oj.op < 2→(dirty=true∨∃ j ∈ l1,∃ oj,all[j]?=some oj∧2≤kindOf P oj.op):=fun hlt=>by
   rcases h2 with h2 | ⟨x,hx,ox,g1,g2⟩
   ·exact .inl h2
   ·rcases List.mem_cons.1 hx with rfl | hx
    ·rw [hj] at g1; cases g1; omega
    ·exact .inr ⟨x,hx,ox,g1,g2⟩
  show i ∈ againAt P all b (j::(l1++i::l2)) dirty acts
  unfold againAt
  rw [nth_eq,hj]
  simp only
  rcases kind_le (P:=P) oj.op with h0 | h0 | h0 | h0
  ·rw [h0]; exact againAt_mem ho hk l2 l1 dirty acts h1' (h2' (by omega)) h3 h4'
  ·rw [h0]
   simp only
   have:=againAt_mem ho hk l2 l1 dirty acts h1' (h2' (by omega)) h3 h4'
   cases (dirty && !acts.any fun a=>bitOf b a j)
   ·exact this
   ·exact List.mem_cons_of_mem _ this
  ·rw [h0]
   exact againAt_mem ho hk l2 l1 true (j::acts) h1' (.inl rfl) (fun a ha=>by
    rcases List.mem_cons.1 ha with rfl | ha
    ·exact h4 a (List.mem_cons_self ..) oj hj (isAct_iff.2 h0)
    ·exact h3 a ha) h4'
  ·rw [h0]; exact againAt_mem ho hk l2 l1 true acts h1' (.inl rfl) h3 h4'
theorem againAll_mem {all:List Oper} {t:Tm}:∀ {l:List Nat},(againAll P all l).val t A=true→∀ i ∈ l,(readAgain P all i).val t A=true
 | [],_,i,hi=>by cases hi
 | j::l,h,i,hi=>by
  simp only [againAll,Bool.and_eq_true] at h
  rcases List.mem_cons.1 hi with rfl | hi
  ·exact h.1
  ·exact againAll_mem h.2 i hi
theorem readAgain_some {all:List Oper} {i:Nat} {o:Oper} {t:Tm} (ho:all[i]?=some o) (hk:kindOf P o.op=1) (h:(readAgain P all i).val t A=true) (hg:(guardS all o.guard).val t=some true) :
  ∃ d,o.dst=some d∧(opS P o.type o.op).val t A=.val (tget t d) A:=by
 unfold readAgain at h
 rw [nth_eq,ho] at h
 simp only at h
 cases hd:o.dst with
 | none=>rw [hd] at h; cases h
 | some d =>
  rw [hd] at h
  simp only at h
  rw [hg] at h
  simp only [readOne,cond_true,readsSame] at h
  refine ⟨d,rfl,?_⟩
  cases hv:(opS P o.type o.op).val t A with
  | val u A1 =>
   rw [hv] at h
   have e1:=read_op hk o.type t A _ _ hv
   have e2:tget t d=u:=sameVal_eq 5 _ _ h
   rw [e1,e2]
  | _=>rw [hv] at h; cases h
theorem take_parts {l:List Nat} {p q i:Nat} (hp:l[p]?=some i) (hq:p < q):(l.take q).reverse=((l.take q).drop (p + 1)).reverse++i::(l.take p).reverse:=by
 have h1:l.take q=l.take p++i::(l.take q).drop (p + 1):=by
  have h2:(l.take q)[p]?=some i:=by rw [List.getElem?_take]; simp [hq,hp]
  have h3:=(List.take_append_drop p (l.take q)).symm
  have h4:(l.take q).drop p=i::(l.take q).drop (p + 1):=by
   obtain ⟨hlt,he⟩:=List.getElem?_eq_some_iff.1 h2
   rw [List.drop_eq_getElem_cons hlt,he]
  rw [h4,List.take_take,Nat.min_eq_left (by omega)] at h3
  exact h3
 rw [h1]
 simp only [List.reverse_append,List.reverse_cons,List.append_assoc,List.singleton_append]
 rw [← h1]
theorem mem_part {l:List Nat} {p q j:Nat} (h:j ∈ ((l.take q).drop (p + 1)).reverse):∃ s:Nat,p < s∧s < q∧l[s]?=some j:=by
 rw [List.mem_reverse] at h
 obtain ⟨k,hk⟩:=List.mem_iff_getElem?.1 h
 rw [List.getElem?_drop,List.getElem?_take] at hk
 split at hk
 ·exact ⟨p + 1 + k,by omega,by assumption,hk⟩
 ·cases hk
theorem part_mem {l:List Nat} {p q s j:Nat} (h1:p < s) (h2:s < q) (h3:l[s]?=some j):j ∈ ((l.take q).drop (p + 1)).reverse:=by
 rw [List.mem_reverse]
 refine List.mem_iff_getElem?.2 ⟨s - (p + 1),?_⟩
 rw [List.getElem?_drop,List.getElem?_take,show p + 1 + (s - (p + 1))=s by omega,if_pos h2]
 exact h3
end Go.Sh
