/- Part of a proof: see the text with the theorem. -/
import Derived.Test.YtiokkkjahkhbfaaSiE
import Derived.Lib.LaidTab
import Derived.ChangeStays
import Derived.OpenShut
import Derived.ProofKit
import Derived.SizedLaws
set_option linter.all false
namespace Go.Sh
open Go
noncomputable section
variable {P:Program}
structure MOp where
 q:Bool
 g:Option (Tmp × Bool)
 d:Option Tmp
 ty:TypeId
 op:Op
inductive MC where
 | skip
 | ops (l:List MOp)
 | seq (a b:MC)
 | cond (c:Operand) (a b:MC)
 | block (id:Nat) (b:MC)
 | loop (b:MC)
 | exit (id:Nat)
 | ret
 | chk (l:List MOp)
inductive RX where
 | fail
 | ok (ex:Ex) (t:Tm) (w:AW)
def putM (d:Option Tmp) (v:Value) (t:Tm):Tm:=match d with | some d=>tset t d v | none=>t
def guardX (g:Option (Tmp × Bool)) (t:Tm):Option Bool:=match g with | none=>some true | some p=>isB p.2 (tget t p.1)
def retX (k:Tm→AW→RX) (d:Option Tmp) (t:Tm) (y:RO):RX :=
 match y with
 | .ok (.ret v) w _=>k (putM d v t) w
 | _=>.fail
def yldM (k:Tm→AW→RX) (d:Option Tmp) (t:Tm) (y:YR):RX :=
 match y with
 | .val b w=>k (putM d (.bool b) t) w
 | _=>.fail
def exN (r:Rec) (k:Tm→AW→RX) (q:Bool) (d:Option Tmp) (t:Tm) (y:R):RX :=
 match y with
 | .val v w=>k (putM d v t) w
 | .enter f args w=>bif q then .fail else retX k d t (r.call f args w .none)
 | .yield l args w=>bif q then .fail else yldM k d t (yieldA r l args w)
 | _=>.fail
def exG (r:Rec) (k:Tm→AW→RX) (q:Bool) (d:Option Tmp) (t:Tm) (w:AW) (y:Tm→AW→R) (g:Option Bool):RX :=
 match g with
 | some true=>exN r k q d t (y t w)
 | some false=>k (putM d undef t) w
 | none=>.fail
def exOps (P:Program) (r:Rec):List MOp→Tm→AW→RX
 | [],t,w=>.ok .normal t w
 | o::l,t,w=>exG r (exOps P r l) o.q o.d t w (opS P o.ty o.op).val (guardX o.g t)
def seqX (k:Tm→AW→RX) (x:RX):RX :=
 match x with
 | .ok .normal t w=>k t w
 | x=>x
def blockX (id:Nat) (x:RX):RX :=
 match x with
 | .ok (.exit i) t w=>if i=id then .ok .normal t w else .ok (.exit i) t w
 | x=>x
def condX (a b:Tm→AW→RX) (t:Tm) (w:AW) (v:Value):RX :=
 match v with
 | .bool true=>a t w
 | .bool false=>b t w
 | _=>.fail
def loopX (body:Tm→AW→RX):Nat→Tm→AW→RX
 | 0,_,_=>.fail
 | n + 1,t,w=>seqX (loopX body n) (body t w)
def chkM (P:Program):List MOp→Tm→AW→Bool
 | [],_,_=>true
 | o::l,t,w=>(match o.d with | some d=>readOne (opS P o.ty o.op).val (guardX o.g t) (tget t d) t w | none=>false) && chkM P l t w
def chkX (b:Bool) (t:Tm) (w:AW):RX:=match b with | true=>.ok .normal t w | false=>.fail
def exM (P:Program) (r:Rec):MC→Tm→AW→RX
 | .skip,t,w=>.ok .normal t w
 | .ops l,t,w=>exOps P r l t w
 | .seq a b,t,w=>seqX (exM P r b) (exM P r a t w)
 | .cond c a b,t,w=>condX (exM P r a) (exM P r b) t w ((evS c).val t)
 | .block id b,t,w=>blockX id (exM P r b t w)
 | .loop b,t,w=>loopX (exM P r b) 4611686018427387904 t w
 | .exit id,t,w=>.ok (.exit id) t w
 | .ret,t,w=>.ok .ret t w
 | .chk l,t,w=>chkX (chkM P l t w) t w
def guardM (all:List Oper) (g:Option (Nat × Bool)):Option (Option (Tmp × Bool)) :=
 match g with
 | none=>some none
 | some p=>match nth all p.1 with
  | none=>none
  | some o=>match o.dst with
   | none=>none
   | some d=>some (some (d,p.2))
def mopF (q:Bool) (all:List Oper) (o:Oper) (l:Option (List MOp)):Option (List MOp) :=
 match guardM all o.guard with
 | some g=>match l with | some l=>some (⟨q,g,o.dst,o.type,o.op⟩::l) | none=>none
 | none=>none
def opsF (P:Program) (n:Nat) (all:List Oper):List Oper→Option (List MOp)
 | []=>some []
 | o::l=>bif operOk P n o then mopF false all o (opsF P n all l) else none
def drawF (P:Program) (n:Nat) (all:List Oper) (b:List Nat):List Nat→List Nat→Option (List MOp)
 | pre,[]=>bif (againAt P all b pre false []).isEmpty then some [] else none
 | pre,i::rest =>
  match nth all i with
  | none=>none
  | some o=>bif operOk P n o && (!isAct P o.op || (againAt P all b pre false []).isEmpty) then mopF (!isAct P o.op) all o (drawF P n all b (i::pre) rest) else none
def drawM (P:Program) (n:Nat) (ops:List Oper) (b:List Nat):Option (List MOp) :=
 let ord:=ordOf P ops b
 bif drawOk P ops b ord && ops.all (fun o=>dstOk n o.dst) then drawF P n ops b [] ord else none
def againF (all:List Oper):List Nat→Option (List MOp)
 | []=>some []
 | i::l=>match nth all i with | some o=>mopF true all o (againF all l) | none=>none
def orM (a:Option MC) (b:Option MC):Option MC:=match a with | some a=>some a | none=>b
def chkC (l:Option (List MOp)):Option MC:=match l with | some l=>some (.chk l) | none=>none
def seqC (a b:Option MC):Option MC:=match a with | some a=>(match b with | some b=>some (.seq a b) | none=>none) | none=>none
def oneC (l:Option (List MOp)):Option MC:=match l with | some l=>some (.ops l) | none=>none
def drawF2 (P:Program) (n:Nat) (all:List Oper) (b:List Nat):List Nat→List Nat→Option MC
 | pre,[]=>chkC (againF all (againAt P all b pre false []))
 | pre,i::rest =>
  match nth all i with
  | none=>none
  | some o=>bif operOk P n o then (bif isAct P o.op && !(againAt P all b pre false []).isEmpty
    then seqC (chkC (againF all (againAt P all b pre false []))) (seqC (oneC (mopF false all o (some []))) (drawF2 P n all b (i::pre) rest))
    else seqC (oneC (mopF (!isAct P o.op) all o (some []))) (drawF2 P n all b (i::pre) rest)) else none
def drawM2 (P:Program) (n:Nat) (ops:List Oper) (b:List Nat):Option MC :=
 let ord:=ordOf P ops b
 bif drawOk P ops b ord && ops.all (fun o=>dstOk n o.dst) then drawF2 P n ops b [] ord else none
def two (f:MC→MC→MC) (a b:Option MC):Option MC:=match a with | some a=>(match b with | some b=>some (f a b) | none=>none) | none=>none
def one (f:MC→MC) (a:Option MC):Option MC:=match a with | some a=>some (f a) | none=>none
def opsC (l:Option (List MOp)):Option MC:=match l with | some l=>some (.ops l) | none=>none
def flat (P:Program) (n:Nat):Code→Option MC
 | .skip=>some .skip
 | .label _=>some .skip
 | .seq a b=>two .seq (flat P n a) (flat P n b)
 | .cond c a b=>bif constOk P c then two (.cond c) (flat P n a) (flat P n b) else none
 | .block id b=>one (.block id) (flat P n b)
 | .loop b=>one .loop (flat P n b)
 | .exit id=>some (.exit id)
 | .ret=>some .ret
 | .scope b=>flat P n b
 | .region _ ops draw=>bif draw then orM (opsC (drawM P n ops.toList (Region.before ops).toList)) (drawM2 P n ops.toList (Region.before ops).toList) else opsC (opsF P n ops.toList ops.toList)
 | _=>none
def Ref (x:RX) (y:List Deferred→Ctx→RC):Prop:=∀ ex t w,x=.ok ex t w→∀ ds c,y ds c=.ok ex t ds w c
theorem guard_ref {all:List Oper} {g:Option (Nat × Bool)} {g':Option (Tmp × Bool)} (h:guardM all g=some g') (t:Tm):(guardS all g).val t=guardX g' t:=by
 cases g with
 | none=>cases h; rfl
 | some p =>
  unfold guardM at h
  unfold guardS
  simp only at h ⊢
  cases h1:nth all p.1 with
  | none=>rw [h1] at h; cases h
  | some o =>
   rw [h1] at h
   simp only at h ⊢
   cases h2:o.dst with
   | none=>rw [h2] at h; cases h
   | some d=>rw [h2] at h; cases h; rfl
theorem putDst_eq (d:Option Tmp) (v:Value) (t:Tm):(putDst d).val v t=putM d v t:=by cases d <;> rfl
theorem Ref.seq {k:Tm→AW→RX} {x:RX} {k':CodeF} {y:List Deferred→Ctx→RC} (h:Ref x y) (hk:∀ t w,Ref (k t w) fun ds c=>k' t ds w c):Ref (seqX k x) fun ds c=>seqK k' (y ds c):=by
 intro ex t w e ds c
 cases x with
 | fail=>cases e
 | ok ex1 t1 w1 =>
  have h1:=h ex1 t1 w1 rfl ds c
  simp only
  rw [h1]
  cases ex1 with
  | normal=>exact hk t1 w1 ex t w e ds c
  | exit i=>cases e; rfl
  | ret=>cases e; rfl
  | panic v=>cases e; rfl
theorem Ref.loop {b:Tm→AW→RX} {b':CodeF} (h:∀ t w,Ref (b t w) fun ds c=>b' t ds w c):∀ n t w,Ref (loopX b n t w) fun ds c=>loopN b' n t ds w c
 | 0,t,w=>fun _ _ _ e=>by cases e
 | n + 1,t,w=>Ref.seq (h t w) (Ref.loop h n)
theorem exG_ops {r:Rec} {k:Tm→AW→RX} {k':CodeF} (hk:∀ t w,Ref (k t w) fun ds c=>k' t ds w c) (d:Option Tmp) (o:OpF) (g:Option Bool) (t:Tm) (w:AW) :
  Ref (exG r k false d t w o g) fun ds c=>opsG r k' (putDst d).val o t ds w c g:=by
 intro ex t' w' e ds c
 cases g with
 | none=>cases e
 | some b=>cases b with
  | false =>
   show k' ((putDst d).val undef t) ds w c=_
   rw [putDst_eq]
   exact hk _ _ _ _ _ e ds c
  | true =>
   show opsN r k' (putDst d).val t ds c (o t w)=_
   have e:exN r k false d t (o t w)=.ok ex t' w':=e
   cases ho:o t w with
   | val v w1 =>
    rw [ho] at e
    show k' ((putDst d).val v t) ds w1 c=_
    rw [putDst_eq]
    exact hk _ _ _ _ _ e ds c
   | enter f args w1 =>
    rw [ho] at e
    show opsO k' (putDst d).val t ds c (r.call f args w1 .none)=_
    have e:retX k d t (r.call f args w1 .none)=.ok ex t' w':=e
    cases hc:r.call f args w1 .none with
    | fail=>rw [hc] at e; cases e
    | ok out w2 x2 =>
     rw [hc] at e
     cases out with
     | panic v=>cases e
     | ret v =>
      show k' ((putDst d).val v t) ds w2 c=_
      rw [putDst_eq]
      exact hk _ _ _ _ _ e ds c
   | yield l args w1 =>
    rw [ho] at e
    show opsY k' (putDst d).val t ds c (yieldA r l args w1)=_
    have e:yldM k d t (yieldA r l args w1)=.ok ex t' w':=e
    cases hc:yieldA r l args w1 with
    | fail=>rw [hc] at e; cases e
    | panic v w2=>rw [hc] at e; cases e
    | val b w2 =>
     rw [hc] at e
     show k' ((putDst d).val (.bool b) t) ds w2 c=_
     rw [putDst_eq]
     exact hk _ _ _ _ _ e ds c
   | _=>rw [ho] at e; cases e
theorem exG_draw {r:Rec} {all:List Oper} {k:Tm→AW→RX} {k':CodeF} (hk:∀ t w,Ref (k t w) fun ds c=>k' t ds w c) (d:Option Tmp) (o:OpF) (g:Option Bool) (t:Tm) (w:AW) :
  Ref (exG r k false d t w o g) fun ds c=>drawG k' (putDst d).val (fun t ds w x=>drawN r k' (putDst d).val all t ds x (o t w)) t ds w c g:=by
 intro ex t' w' e ds c
 cases g with
 | none=>cases e
 | some b=>cases b with
  | false =>
   show k' ((putDst d).val undef t) ds w c=_
   rw [putDst_eq]
   exact hk _ _ _ _ _ e ds c
  | true =>
   show drawN r k' (putDst d).val all t ds c (o t w)=_
   have e:exN r k false d t (o t w)=.ok ex t' w':=e
   cases ho:o t w with
   | val v w1 =>
    rw [ho] at e
    show k' ((putDst d).val v t) ds w1 c=_
    rw [putDst_eq]
    exact hk _ _ _ _ _ e ds c
   | enter f args w1 =>
    rw [ho] at e
    show drawO k' (putDst d).val all t ds c (r.call f args w1 .none)=_
    have e:retX k d t (r.call f args w1 .none)=.ok ex t' w':=e
    cases hc:r.call f args w1 .none with
    | fail=>rw [hc] at e; cases e
    | ok out w2 x2 =>
     rw [hc] at e
     cases out with
     | panic v=>cases e
     | ret v =>
      show k' ((putDst d).val v t) ds w2 c=_
      rw [putDst_eq]
      exact hk _ _ _ _ _ e ds c
   | yield l args w1 =>
    rw [ho] at e
    show drawY k' (putDst d).val all t ds c (yieldA r l args w1)=_
    have e:yldM k d t (yieldA r l args w1)=.ok ex t' w':=e
    cases hc:yieldA r l args w1 with
    | fail=>rw [hc] at e; cases e
    | panic v w2=>rw [hc] at e; cases e
    | val b w2 =>
     rw [hc] at e
     show k' ((putDst d).val (.bool b) t) ds w2 c=_
     rw [putDst_eq]
     exact hk _ _ _ _ _ e ds c
   | _=>rw [ho] at e; cases e
theorem exG_quiet {r:Rec} {k:Tm→AW→RX} {k':CodeF} (hk:∀ t w,Ref (k t w) fun ds c=>k' t ds w c) (d:Option Tmp) (o:OpF) (g:Option Bool) (t:Tm) (w:AW) :
  Ref (exG r k true d t w o g) fun ds c=>drawG k' (putDst d).val (fun t ds w x=>quietN k' (putDst d).val t ds x (o t w)) t ds w c g:=by
 intro ex t' w' e ds c
 cases g with
 | none=>cases e
 | some b=>cases b with
  | false =>
   show k' ((putDst d).val undef t) ds w c=_
   rw [putDst_eq]
   exact hk _ _ _ _ _ e ds c
  | true =>
   show quietN k' (putDst d).val t ds c (o t w)=_
   have e:exN r k true d t (o t w)=.ok ex t' w':=e
   cases ho:o t w with
   | val v w1 =>
    rw [ho] at e
    show k' ((putDst d).val v t) ds w1 c=_
    rw [putDst_eq]
    exact hk _ _ _ _ _ e ds c
   | _=>rw [ho] at e; cases e
theorem ops_ref {r:Rec} {n:Nat} {all:List Oper}:∀ (ops:List Oper) (l:List MOp),opsF P n all ops=some l→∀ t w,Ref (exOps P r l t w) fun ds c=>(opsS P n all ops).val r t ds w c
 | [],l,h,t,w=>by cases h; intro ex t' w' e ds c; cases e; rfl
 | o::ops,l,h,t,w=>by
  unfold opsF at h
  cases hok:operOk P n o with
  | false=>rw [hok] at h; cases h
  | true =>
   rw [hok] at h
   simp only [cond_true,mopF] at h
   cases hg:guardM all o.guard with
   | none=>rw [hg] at h; cases h
   | some g =>
    rw [hg] at h
    simp only at h
    cases hl:opsF P n all ops with
    | none=>rw [hl] at h; cases h
    | some l' =>
     rw [hl] at h
     cases h
     have:=exG_ops (r:=r) (k:=exOps P r l') (k':=(opsS P n all ops).val r) (ops_ref ops l' hl) o.dst (opS P o.type o.op).val (guardX g t) t w
     rw [← guard_ref hg t] at this
     intro ex t' w' e ds c
     unfold opsS
     rw [hok]
     refine this ex t' w' ?_ ds c
     rw [guard_ref hg t]
     exact e
theorem draw_ref {r:Rec} {n:Nat} {all:List Oper} {b:List Nat}:∀ (rest pre:List Nat) (l:List MOp),drawF P n all b pre rest=some l→∀ t w,Ref (exOps P r l t w) fun ds c=>(drawS P n all b pre rest).val r t ds w c
 | [],pre,l,h,t,w=>by
  unfold drawF at h
  cases ha:againAt P all b pre false [] with
  | cons x y=>rw [ha] at h; cases h
  | nil =>
   rw [ha] at h
   cases h
   intro ex t' w' e ds c
   cases e
   show (bif (againAll P all (againAt P all b pre false [])).val t w then _ else _)=_
   rw [ha]
   rfl
 | i::rest,pre,l,h,t,w=>by
  unfold drawF at h
  cases hi:nth all i with
  | none=>rw [hi] at h; cases h
  | some o =>
   rw [hi] at h
   simp only at h
   cases hok:operOk P n o with
   | false=>rw [hok] at h; simp at h
   | true =>
    rw [hok,Bool.true_and] at h
    cases hc:(!isAct P o.op || (againAt P all b pre false []).isEmpty) with
    | false=>rw [hc] at h; cases h
    | true =>
     rw [hc] at h
     simp only [cond_true,mopF] at h
     cases hg:guardM all o.guard with
     | none=>rw [hg] at h; cases h
     | some g =>
      rw [hg] at h
      simp only at h
      cases hl:drawF P n all b (i::pre) rest with
      | none=>rw [hl] at h; cases h
      | some l' =>
       rw [hl] at h
       cases h
       have ih:=draw_ref (r:=r) rest (i::pre) l' hl
       intro ex t' w' e ds c
       have e:exG r (exOps P r l') (!isAct P o.op) o.dst t w (opS P o.type o.op).val (guardX g t)=.ok ex t' w':=e
       unfold drawS
       rw [hi]
       simp only
       rw [hok]
       cases hact:isAct P o.op with
       | true =>
        rw [hact] at hc e
        simp only [Bool.not_true,Bool.false_or] at hc e
        cases ha:againAt P all b pre false [] with
        | cons x y=>rw [ha] at hc; cases hc
        | nil =>
         have:=exG_draw (r:=r) (all:=all) (k':=(drawS P n all b (i::pre) rest).val r) ih o.dst (opS P o.type o.op).val (guardX g t) t w ex t' w' e ds c
         rw [← guard_ref hg t] at this
         exact this
       | false =>
        rw [hact] at e
        have:=exG_quiet (r:=r) (k':=(drawS P n all b (i::pre) rest).val r) ih o.dst (opS P o.type o.op).val (guardX g t) t w ex t' w' e ds c
        rw [← guard_ref hg t] at this
        exact this
theorem seqC_some {a b:Option MC} {m:MC} (h:seqC a b=some m):∃ x y,a=some x∧b=some y∧m=.seq x y:=by
 cases a with
 | none=>cases h
 | some x=>cases b with
  | none=>cases h
  | some y=>cases h; exact ⟨x,y,rfl,rfl,rfl⟩
theorem mop_some {q:Bool} {all:List Oper} {o:Oper} {l:Option (List MOp)} {k:List MOp} (h:mopF q all o l=some k):∃ g l',guardM all o.guard=some g∧l=some l'∧k=⟨q,g,o.dst,o.type,o.op⟩::l':=by
 unfold mopF at h
 cases hg:guardM all o.guard with
 | none=>rw [hg] at h; cases h
 | some g=>cases l with
  | none=>rw [hg] at h; cases h
  | some l'=>rw [hg] at h; cases h; exact ⟨g,l',rfl,rfl,rfl⟩
theorem again_ref {all:List Oper}:∀ (l:List Nat) (c:List MOp),againF all l=some c→∀ t w,chkM P c t w=true→(againAll P all l).val t w=true
 | [],c,h,t,w,_=>rfl
 | i::l,c,h,t,w,hc=>by
  unfold againF at h
  cases hi:nth all i with
  | none=>rw [hi] at h; cases h
  | some o =>
   rw [hi] at h
   obtain ⟨g,l',hg,hl,rfl⟩:=mop_some h
   show ((readAgain P all i).val t w && (againAll P all l).val t w)=true
   unfold chkM at hc
   rw [Bool.and_eq_true] at hc
   rw [again_ref l l' hl t w hc.2,Bool.and_true]
   unfold readAgain
   rw [hi]
   cases hd:o.dst with
   | none=>simp only [hd] at hc; exact absurd hc.1 (by decide)
   | some d =>
    simp only [hd] at hc ⊢
    rw [guard_ref hg t]
    exact hc.1
theorem chk_ref {all:List Oper} {l:List Nat} {m:MC} (h:chkC (againF all l)=some m) {r:Rec} {t t':Tm} {w w':AW} {ex:Ex} (e:exM P r m t w=.ok ex t' w'):(againAll P all l).val t w=true∧ex=.normal∧t'=t∧w'=w:=by
 cases hc:againF all l with
 | none=>rw [hc] at h; cases h
 | some c =>
  rw [hc] at h
  cases h
  have e:chkX (chkM P c t w) t w=.ok ex t' w':=e
  cases hk:chkM P c t w with
  | false=>rw [hk] at e; cases e
  | true=>rw [hk] at e; cases e; exact ⟨again_ref l c hc t w hk,rfl,rfl,rfl⟩
theorem one_ops {r:Rec} {k:Tm→AW→RX} {q:Bool} {g:Option (Tmp × Bool)} {d:Option Tmp} {ty:TypeId} {op:Op} {t:Tm} {w:AW}:seqX k (exOps P r [⟨q,g,d,ty,op⟩] t w)=exG r k q d t w (opS P ty op).val (guardX g t):=by
 show seqX k (exG r (exOps P r []) q d t w (opS P ty op).val (guardX g t))=_
 cases guardX g t with
 | none=>rfl
 | some b=>cases b with
  | false=>rfl
  | true =>
   show seqX k (exN r (exOps P r []) q d t ((opS P ty op).val t w))=exN r k q d t ((opS P ty op).val t w)
   cases (opS P ty op).val t w with
   | val v w1=>rfl
   | enter f args w1 =>
    cases q with
    | true=>rfl
    | false =>
     show seqX k (retX (exOps P r []) d t (r.call f args w1 .none))=retX k d t (r.call f args w1 .none)
     cases r.call f args w1 .none with
     | fail=>rfl
     | ok out w2 x2=>cases out <;> rfl
   | yield l args w1 =>
    cases q with
    | true=>rfl
    | false =>
     show seqX k (yldM (exOps P r []) d t (yieldA r l args w1))=yldM k d t (yieldA r l args w1)
     cases yieldA r l args w1 <;> rfl
   | _=>rfl
theorem draw_ref2 {r:Rec} {n:Nat} {all:List Oper} {b:List Nat}:∀ (rest pre:List Nat) (m:MC),drawF2 P n all b pre rest=some m→∀ t w,Ref (exM P r m t w) fun ds c=>(drawS P n all b pre rest).val r t ds w c
 | [],pre,m,h,t,w=>by
  unfold drawF2 at h
  intro ex t' w' e ds c
  obtain ⟨h1,rfl,rfl,rfl⟩:=chk_ref h e
  show (bif (againAll P all (againAt P all b pre false [])).val t' w' then _ else _)=_
  rw [h1]
  rfl
 | i::rest,pre,m,h,t,w=>by
  unfold drawF2 at h
  cases hi:nth all i with
  | none=>rw [hi] at h; cases h
  | some o =>
   rw [hi] at h
   simp only at h
   cases hok:operOk P n o with
   | false=>rw [hok] at h; cases h
   | true =>
    rw [hok,cond_true] at h
    cases hact:isAct P o.op with
    | false =>
     rw [hact] at h
     obtain ⟨x,y,hx,hy,rfl⟩:=seqC_some h
     cases hm:mopF true all o (some []) with
     | none=>simp only [Bool.not_false,hm] at hx; cases hx
     | some l1 =>
      simp only [Bool.not_false,hm] at hx
      cases hx
      obtain ⟨g,l',hg,hl,rfl⟩:=mop_some hm
      cases hl
      have ih:=draw_ref2 (r:=r) rest (i::pre) y hy
      intro ex t' w' e ds c
      have e:seqX (exM P r y) (exOps P r [⟨true,g,o.dst,o.type,o.op⟩] t w)=.ok ex t' w':=e
      rw [one_ops] at e
      unfold drawS
      rw [hi]
      simp only
      rw [hok,hact]
      have:=exG_quiet (r:=r) (k':=(drawS P n all b (i::pre) rest).val r) ih o.dst (opS P o.type o.op).val (guardX g t) t w ex t' w' e ds c
      rw [← guard_ref hg t] at this
      exact this
    | true =>
     have ih:=fun (y:MC) (hy:drawF2 P n all b (i::pre) rest=some y)=>draw_ref2 (r:=r) rest (i::pre) y hy
     have key:∀ (x y:MC),oneC (mopF false all o (some []))=some x→drawF2 P n all b (i::pre) rest=some y→(againAll P all (againAt P all b pre false [])).val t w=true→Ref (seqX (exM P r y) (exM P r x t w)) fun ds c=>(drawS P n all b pre (i::rest)).val r t ds w c:=by
      intro x y hx hy hag
      cases hm:mopF false all o (some []) with
      | none=>rw [hm] at hx; cases hx
      | some l1 =>
       rw [hm] at hx
       cases hx
       obtain ⟨g,l',hg,hl,rfl⟩:=mop_some hm
       cases hl
       intro ex t' w' e ds c
       have e:seqX (exM P r y) (exOps P r [⟨false,g,o.dst,o.type,o.op⟩] t w)=.ok ex t' w':=e
       rw [one_ops] at e
       unfold drawS
       rw [hi]
       simp only
       rw [hok,hact]
       have:=exG_draw (r:=r) (all:=all) (k':=(drawS P n all b (i::pre) rest).val r) (ih y hy) o.dst (opS P o.type o.op).val (guardX g t) t w ex t' w' e ds c
       rw [← guard_ref hg t] at this
       show (bif (againAll P all (againAt P all b pre false [])).val t w then _ else _)=_
       rw [hag]
       exact this
     rw [hact,Bool.true_and] at h
     cases ha:(againAt P all b pre false []).isEmpty with
     | true =>
      rw [ha] at h
      obtain ⟨x,y,hx,hy,rfl⟩:=seqC_some h
      refine key x y hx hy ?_
      cases hag:againAt P all b pre false [] with
      | nil=>rfl
      | cons a l=>rw [hag] at ha; cases ha
     | false =>
      rw [ha] at h
      obtain ⟨x,y,hx,hy,rfl⟩:=seqC_some h
      obtain ⟨x2,y2,hx2,hy2,rfl⟩:=seqC_some hy
      intro ex t' w' e ds c
      have e:seqX (exM P r (.seq x2 y2)) (exM P r x t w)=.ok ex t' w':=e
      cases h1:exM P r x t w with
      | fail=>rw [h1] at e; cases e
      | ok ex1 t1 w1 =>
       obtain ⟨hag,rfl,rfl,rfl⟩:=chk_ref hx h1
       rw [h1] at e
       exact key x2 y2 hx2 hy2 hag ex t' w' e ds c
theorem two_some {f:MC→MC→MC} {a b:Option MC} {c:MC} (h:two f a b=some c):∃ x y,a=some x∧b=some y∧c=f x y:=by
 cases a with
 | none=>cases h
 | some x=>cases b with
  | none=>cases h
  | some y=>cases h; exact ⟨x,y,rfl,rfl,rfl⟩
theorem one_some {f:MC→MC} {a:Option MC} {c:MC} (h:one f a=some c):∃ x,a=some x∧c=f x:=by
 cases a with
 | none=>cases h
 | some x=>cases h; exact ⟨x,rfl,rfl⟩
theorem flat_ref {r:Rec} {n:Nat}:∀ (c:Code) (m:MC),flat P n c=some m→∀ t w,Ref (exM P r m t w) fun ds x=>(compC P n c).val r t ds w x
 | .skip,m,h,t,w=>by cases h; intro ex t' w' e ds c; cases e; rfl
 | .label _,m,h,t,w=>by cases h; intro ex t' w' e ds c; cases e; rfl
 | .exit id,m,h,t,w=>by cases h; intro ex t' w' e ds c; cases e; rfl
 | .ret,m,h,t,w=>by cases h; intro ex t' w' e ds c; cases e; rfl
 | .seq a b,m,h,t,w=>by
  obtain ⟨x,y,h1,h2,rfl⟩:=two_some h
  exact Ref.seq (k':=(compC P n b).val r) (flat_ref a x h1 t w) (flat_ref b y h2)
 | .cond c a b,m,h,t,w=>by
  unfold flat at h
  cases hc:constOk P c with
  | false=>rw [hc] at h; cases h
  | true =>
   rw [hc] at h
   obtain ⟨x,y,h1,h2,rfl⟩:=two_some h
   intro ex t' w' e ds cx
   unfold compC
   rw [hc]
   show condK ((compC P n a).val r) ((compC P n b).val r) t ds w cx ((evS c).val t)=_
   have e:condX (exM P r x) (exM P r y) t w ((evS c).val t)=.ok ex t' w':=e
   unfold condX at e
   split at e
   ·rename_i hv; rw [hv]; exact flat_ref a x h1 t w ex t' w' e ds cx
   ·rename_i hv; rw [hv]; exact flat_ref b y h2 t w ex t' w' e ds cx
   ·cases e
 | .block id b,m,h,t,w=>by
  obtain ⟨x,h1,rfl⟩:=one_some h
  intro ex t' w' e ds cx
  show blockK id ((compC P n b).val r t ds w cx)=_
  have e:blockX id (exM P r x t w)=.ok ex t' w':=e
  cases hx:exM P r x t w with
  | fail=>rw [hx] at e; cases e
  | ok ex1 t1 w1 =>
   rw [hx] at e
   have hb:(compC P n b).val r t ds w cx=.ok ex1 t1 ds w1 cx:=flat_ref b x h1 t w ex1 t1 w1 hx ds cx
   rw [hb]
   cases ex1 with
   | exit i =>
    simp only [blockX] at e
    by_cases hi:i=id
    ·subst hi
     rw [if_pos rfl] at e
     cases e
     simp [blockK]
    ·rw [if_neg hi] at e
     cases e
     have:Nat.beq i id=false:=by rw [← Bool.not_eq_true]; intro hb; exact hi (Nat.eq_of_beq_eq_true hb)
     simp [blockK,this]
   | _=>cases e; rfl
 | .loop b,m,h,t,w=>by
  obtain ⟨x,h1,rfl⟩:=one_some h
  exact Ref.loop (flat_ref b x h1) 4611686018427387904 t w
 | .scope b,m,h,t,w=>flat_ref (r:=r) b m h t w
 | .region _ ops draw,m,h,t,w=>by
  unfold flat at h
  cases draw with
  | false =>
   simp only [cond_false] at h
   cases hl:opsF P n ops.toList ops.toList with
   | none=>rw [hl] at h; cases h
   | some l=>rw [hl] at h; cases h; exact ops_ref ops.toList l hl t w
  | true =>
   simp only [cond_true] at h
   intro ex t' w' e ds cx
   show (drawC P n ops.toList (Region.before ops).toList).val r t ds w cx=_
   unfold drawC
   simp only
   cases hl:drawM P n ops.toList (Region.before ops).toList with
   | some l =>
    rw [hl] at h; cases h
    unfold drawM at hl
    simp only at hl
    cases hc:(drawOk P ops.toList (Region.before ops).toList (ordOf P ops.toList (Region.before ops).toList) && ops.toList.all fun o=>dstOk n o.dst) with
    | false=>rw [hc] at hl; cases hl
    | true =>
     rw [hc] at hl
     exact draw_ref _ [] l hl t w ex t' w' e ds cx
   | none =>
    rw [hl] at h
    have h:drawM2 P n ops.toList (Region.before ops).toList=some m:=h
    unfold drawM2 at h
    simp only at h
    cases hc:(drawOk P ops.toList (Region.before ops).toList (ordOf P ops.toList (Region.before ops).toList) && ops.toList.all fun o=>dstOk n o.dst) with
    | false=>rw [hc] at h; cases h
    | true =>
     rw [hc] at h
     exact draw_ref2 _ [] m h t w ex t' w' e ds cx
 | .goto _,m,h,t,w=>by cases h
 | .rangeFunc ..,m,h,t,w=>by cases h
 | .refuse _,m,h,t,w=>by cases h
theorem call_flat {ov:Ov} {m:Nat} {f:FuncId} {fn:Func} {body:Code} {mc:MC} {args:List Value} {w w':AW} {ex:Ex} {t':Tm} {vs:List Value} (hf:bodyOf P f=some (fn,some body)) (hm:flat P fn.ntmps body=some mc)
  (hl:(Nat.ble (lenL args 0) fn.ntmps && Nat.ble fn.ntmps 60000)=true) (ho:ov f args w=none) (hx:exM P (run P ov m) mc (enterT 0 args .nil) w=.ok ex t' w') (he:ex=.normal∨ex=.ret) (hr:ressA P t' w' fn.results.toList=some vs) :
  (run P ov (m + 1)).call f args w .none=.ok (.ret (tupV vs)) w' .none:=by
 show stepO P (run P ov m) f args w .none (ov f args w)=_
 rw [ho]
 show stepCall P (run P ov m) f args w .none=_
 unfold stepCall
 rw [hf]
 simp only
 rw [hl]
 simp only [cond_true]
 have hb:(compC P fn.ntmps body).val (run P ov m) (enterT 0 args .nil) [] w .none=.ok ex t' [] w' .none:=flat_ref body mc hm _ _ ex t' w' hx [] .none
 rw [hb]
 rcases he with rfl | rfl <;> simp [callE,leaveR,retA,hr]
end
end Go.Sh
namespace Go.Sh
open Go
noncomputable section
variable {P:Program} {r:Rec} {t:Tm} {w:AW}
def wp (x:RX) (Q:Ex→Tm→AW→Prop):Prop:=match x with | .fail=>False | .ok ex t w=>Q ex t w
theorem wp.some {x:RX} {Q:Ex→Tm→AW→Prop} (h:wp x Q):∃ ex t w,x=.ok ex t w∧Q ex t w:=by
 cases x with
 | fail=>exact h.elim
 | ok ex t w=>exact ⟨ex,t,w,rfl,h⟩
theorem wp.mono {x:RX} {Q R:Ex→Tm→AW→Prop} (h:wp x Q) (k:∀ ex t w,Q ex t w→R ex t w):wp x R:=by
 cases x with
 | fail=>exact h.elim
 | ok ex t w=>exact k ex t w h
def thenQ (k:Tm→AW→RX) (Q:Ex→Tm→AW→Prop):Ex→Tm→AW→Prop:=fun ex t w=>match ex with | .normal=>wp (k t w) Q | ex=>Q ex t w
theorem wp_seqX {k:Tm→AW→RX} {x:RX} {Q:Ex→Tm→AW→Prop} (h:wp x (thenQ k Q)):wp (seqX k x) Q:=by
 cases x with
 | fail=>exact h.elim
 | ok ex t w=>cases ex <;> exact h
def blockQ (id:Nat) (Q:Ex→Tm→AW→Prop):Ex→Tm→AW→Prop:=fun ex t w=>match ex with | .exit i=>if i=id then Q .normal t w else Q (.exit i) t w | ex=>Q ex t w
theorem wp_loopX {body:Tm→AW→RX} {Q:Ex→Tm→AW→Prop} (I:Nat→Tm→AW→Prop) (n:Nat) (hstep:∀ i t w,I i t w→wp (body t w) fun ex t' w'=>match ex with | .normal=>i < n∧I (i + 1) t' w' | ex=>Q ex t' w') :
  ∀ (k m i:Nat) (t:Tm) (w:AW),n - i < k→k≤m→I i t w→wp (loopX body m t w) Q
 | 0,_,_,_,_,h,_,_=>by omega
 | k + 1,m,i,t,w,hk,hm,hI=>by
  obtain ⟨m,rfl⟩:∃ m',m=m' + 1:=⟨m - 1,by omega⟩
  show wp (seqX (loopX body m) (body t w)) Q
  refine wp_seqX ((hstep i t w hI).mono fun ex t' w' h=>?_)
  cases ex with
  | normal =>
   have h:i < n∧I (i + 1) t' w':=h
   exact wp_loopX I n hstep k m (i + 1) t' w' (by omega) (by omega) h.2
  | _=>exact h
theorem wp_loop {b:MC} {Q:Ex→Tm→AW→Prop} (I:Nat→Tm→AW→Prop) (n:Nat) (hn:n < 4611686018427387904) (h0:I 0 t w) (hstep:∀ i t w,I i t w→wp (exM P r b t w) fun ex t' w'=>match ex with | .normal=>i < n∧I (i + 1) t' w' | ex=>Q ex t' w') :
  wp (exM P r (.loop b) t w) Q:=wp_loopX I n hstep (n + 1) 4611686018427387904 0 t w (by omega) (by omega) h0
def textF (P:Program) (f:FuncId):Option (Nat × List ResultVar × MC) :=
 match bodyOf P f with
 | some p=>match p.2 with
  | some body=>match flat P p.1.ntmps body with
   | some mc=>bif Nat.ble p.1.ntmps 60000 then some (p.1.ntmps,p.1.results.toList,mc) else none
   | none=>none
  | none=>none
 | none=>none
theorem call_wp {ov:Ov} {m n:Nat} {f:FuncId} {rs:List ResultVar} {mc:MC} {args:List Value} {w:AW} {Q:Value→AW→Prop} (hf:textF P f=some (n,rs,mc)) (hl:args.length≤n) (ho:ov f args w=none)
  (h:wp (exM P (run P ov m) mc (enterT 0 args .nil) w) fun ex t' w'=>(ex=.normal∨ex=.ret)∧∃ vs,ressA P t' w' rs=some vs∧Q (tupV vs) w'):∃ v w',(run P ov (m + 1)).call f args w .none=.ok (.ret v) w' .none∧Q v w':=by
 unfold textF at hf
 cases hb:bodyOf P f with
 | none=>rw [hb] at hf; cases hf
 | some p =>
  obtain ⟨fn,body⟩:=p
  rw [hb] at hf
  cases body with
  | none=>cases hf
  | some body =>
   simp only at hf
   cases hm:flat P fn.ntmps body with
   | none=>rw [hm] at hf; cases hf
   | some mc' =>
    rw [hm] at hf
    simp only at hf
    cases hn:Nat.ble fn.ntmps 60000 with
    | false=>rw [hn] at hf; cases hf
    | true =>
     rw [hn] at hf
     simp only [cond_true,Option.some.injEq,Prod.mk.injEq] at hf
     obtain ⟨rfl,rfl,rfl⟩:=hf
     obtain ⟨ex,t',w',hx,he,vs,hr,hQ⟩:=h.some
     have hl':(Nat.ble (lenL args 0) fn.ntmps && Nat.ble fn.ntmps 60000)=true:=by
      rw [hn,Bool.and_true,lenL0]; simpa using hl
     exact ⟨_,w',call_flat hb hm hl' ho hx he hr,hQ⟩
abbrev PureF:=List Value→AW→Option Value
def ovP (f:FuncId) (F:PureF) (rest:Ov):Ov:=fun g args w=>if g=f then (match F args w with | some v=>some (.ok (.ret v) w .none) | none=>rest g args w) else rest g args w
def HasP (ov:Ov) (f:FuncId) (F:PureF):Prop:=∀ args w v,F args w=some v→ov f args w=some (.ok (.ret v) w .none)
theorem HasP.here {f:FuncId} {F:PureF} {rest:Ov}:HasP (ovP f F rest) f F:=fun args w v h=>by simp [ovP,h]
theorem HasP.skip {f g:FuncId} {F G:PureF} {rest:Ov} (hne:f ≠ g) (h:HasP rest f F):HasP (ovP g G rest) f F:=fun args w v hv=>by simp [ovP,hne,h args w v hv]
theorem HasP.call {ov:Ov} {f:FuncId} {F:PureF} (h:HasP ov f F) {m:Nat} {args:List Value} {w:AW} {v:Value} (hv:F args w=some v):(run P ov (m + 1)).call f args w .none=.ok (.ret v) w .none:=by
 show stepO P (run P ov m) f args w .none (ov f args w)=_
 rw [h args w v hv]
 rfl
def shutA (w:AW):AW:=⟨w.heap,w.next,w.next⟩
theorem shut_MR {φ:Inj} {A:AW} {W:World} (hM:MR P φ A W):MR P φ (shutA A) W :=
 ⟨hM.obj,hM.dead,fun b b' c n s d n' s' d' hb hb' hlb=>(by have:=hM.fresh b hlb; rw [this] at hb; cases hb),hM.fresh,hM.globals,Nat.le_refl _⟩
theorem pure_ok (hP:NoCount P) (hm:P.follows .mixedOrders=true) {rest:Ov} (hO:OvOk P rest) {f:FuncId} {F:PureF}
  (hF:∀ args w v,F args w=some v→F args (shutA w)=some v)
  (fact:∀ args w v,w.lim=w.next→F args w=some v→groundC 3 v=true∧∃ m w' x',(run P rest m).call f args w .none=.ok (.ret v) w' x'):OvOk P (ovP f F rest):=by
 intro g φ A W args args' cs o A' x' hM hA hov
 unfold ovP at hov
 by_cases hg:g=f
 ·rw [if_pos hg] at hov
  subst hg
  cases hv:F args A with
  | none=>rw [hv] at hov; exact hO g φ A W args args' cs o A' x' hM hA hov
  | some v =>
   rw [hv] at hov
   simp only [Option.some.injEq,RO.ok.injEq] at hov
   obtain ⟨rfl,rfl,rfl⟩:=hov
   obtain ⟨hgr,m,A1,x1,hrun⟩:=fact args (shutA A) v rfl (hF args A v hv)
   have hM0:=shut_MR hM
   have hcall:=(run_ok hP (drawn_ok hP hm) hO m).call g φ (shutA A) W args args' .none .normal cs hM0 hA (.none _)
   rw [hrun] at hcall
   obtain ⟨φ1,w1,cs1,fr1,g1,g2,g3,g4,g5,g6⟩:=hcall
   have hcs:cs1=cs:=g4.1.eq
   subst hcs
   have hold:∀ c,c < W.heap.size→w1.heap[c]?=W.heap[c]?:=fun c hc'=>g2.keeps (Nat.le_refl _) (fun b hb=>hM0.fresh b hb) hc'
   refine ⟨rfl,φ,w1,fr1,⟨fun b c n s d hb=>?_,hM.dead,hM.one,hM.fresh,hM.globals,hM.lim⟩,⟨φ.le_refl,rfl,Nat.le_refl _,fun _ _=>⟨rfl,rfl⟩,g2.size,fun c hc' _=>hold c hc',fun _ _ _ _ _ h=>.inl h,fun _ _ h=>⟨rfl,h⟩,g2.os,g2.tape,g2.output⟩,?_,g6⟩
   ·obtain ⟨o1,oc,k1,k2,k3⟩:=hM.obj b c n s d hb
    exact ⟨o1,oc,k1,by rw [hold c (lt_of_heap k2)]; exact k2,k3⟩
   ·obtain ⟨q1,q2,q3,fn,q4,q5,v',q6,q7⟩:=g5
    exact ⟨q1,q2,q3,fn,q4,q5,v',ground_any 3 v hgr v' q6,q7⟩
 ·rw [if_neg hg] at hov
  exact hO g φ A W args args' cs o A' x' hM hA hov
end
end Go.Sh
namespace Go.Sh
open Go
noncomputable section
variable {P:Program} {r:Rec} {t:Tm} {w:AW}
@[simp] theorem ev_tmp (n:Nat):(evS (.tmp n)).val t=tget t n:=rfl
@[simp] theorem ev_const (v:Value):(evS (.const v)).val t=v:=rfl
@[simp] theorem ev_global (g:Nat):(evS (.global g)).val t=.pointer (some ⟨g,0,none⟩):=rfl
@[simp] theorem ev_func (f:Nat):(evS (.func f)).val t=.func (.func f) #[] #[]:=rfl
@[simp] theorem evL_nil:(evL []).val t=[]:=rfl
@[simp] theorem evL_cons (x:Operand) (l:List Operand):(evL (x::l)).val t=(evS x).val t::(evL l).val t:=rfl
@[simp] theorem evP_nil:(evP []).val t=[]:=rfl
@[simp] theorem evP_cons (i:Nat) (x:Operand) (l:List (Nat × Operand)):(evP ((i,x)::l)).val t=(i,(evS x).val t)::(evP l).val t:=rfl
@[simp] theorem evO_none:(evO none).val t=none:=rfl
@[simp] theorem evO_some (x:Operand):(evO (some x)).val t=some ((evS x).val t):=rfl
@[simp] theorem enter_nil (i:Nat):enterT i [] t=t:=rfl
@[simp] theorem enter_cons (i:Nat) (v:Value) (vs:List Value):enterT i (v::vs) t=enterT (i + 1) vs (tset t i v):=rfl
@[simp] theorem ops_nil:exOps P r [] t w=.ok .normal t w:=rfl
@[simp] theorem ops_cons (q:Bool) (g:Option (Tmp × Bool)) (d:Option Tmp) (ty:TypeId) (op:Op) (l:List MOp):exOps P r (⟨q,g,d,ty,op⟩::l) t w=exG r (exOps P r l) q d t w (opS P ty op).val (guardX g t):=rfl
@[simp] theorem exM_ops (l:List MOp):exM P r (.ops l) t w=exOps P r l t w:=rfl
@[simp] theorem exM_skip:exM P r .skip t w=.ok .normal t w:=rfl
@[simp] theorem exM_ret:exM P r .ret t w=.ok .ret t w:=rfl
@[simp] theorem exM_exit (i:Nat):exM P r (.exit i) t w=.ok (.exit i) t w:=rfl
@[simp] theorem exM_seq (a b:MC):exM P r (.seq a b) t w=seqX (exM P r b) (exM P r a t w):=rfl
@[simp] theorem exM_cond (c:Operand) (a b:MC):exM P r (.cond c a b) t w=condX (exM P r a) (exM P r b) t w ((evS c).val t):=rfl
@[simp] theorem exM_block (i:Nat) (b:MC):exM P r (.block i b) t w=blockX i (exM P r b t w):=rfl
@[simp] theorem exM_chk (l:List MOp):exM P r (.chk l) t w=chkX (chkM P l t w) t w:=rfl
@[simp] theorem chkX_true:chkX true t w=.ok .normal t w:=rfl
@[simp] theorem chkM_nil:chkM P [] t w=true:=rfl
@[simp] theorem chkM_cons (q:Bool) (g:Option (Tmp × Bool)) (d:Tmp) (ty:TypeId) (op:Op) (l:List MOp):chkM P (⟨q,g,some d,ty,op⟩::l) t w=(readOne (opS P ty op).val (guardX g t) (tget t d) t w && chkM P l t w):=rfl
@[simp] theorem readOne_true (o:OpF) (v:Value):readOne o (some true) v t w=readsSame o v t w:=rfl
@[simp] theorem readOne_false (o:OpF) (v:Value):readOne o (some false) v t w=true:=rfl
def sameR (v:Value) (y:R):Bool:=match y with | .val u _=>sameVal 5 v u | _=>false
@[simp] theorem readsSame_eq (o:OpF) (v:Value):readsSame o v t w=sameR v (o t w):=rfl
@[simp] theorem sameR_val (v u:Value):sameR v (.val u w)=sameVal 5 v u:=rfl
@[simp] theorem same_int (k:IntKind) (a:Int):sameVal 5 (.int k a) (.int k a)=true:=by
 show (sameK k k && intEq a a)=true
 have h1:sameK k k=true:=by cases k <;> rfl
 have h2:intEq a a=true:=by cases a <;> simp [intEq]
 rw [h1,h2]; rfl
@[simp] theorem same_slice (a:Option Addr) (l c:Nat):sameVal 5 (.slice a l c) (.slice a l c)=true:=by
 show ((a == a) && (Nat.beq l l && Nat.beq c c))=true
 simp
@[simp] theorem seqX_normal (k:Tm→AW→RX):seqX k (.ok .normal t w)=k t w:=rfl
@[simp] theorem seqX_ret (k:Tm→AW→RX):seqX k (.ok .ret t w)=.ok .ret t w:=rfl
@[simp] theorem seqX_exit (k:Tm→AW→RX) (i:Nat):seqX k (.ok (.exit i) t w)=.ok (.exit i) t w:=rfl
@[simp] theorem condX_true (a b:Tm→AW→RX):condX a b t w (.bool true)=a t w:=rfl
@[simp] theorem condX_false (a b:Tm→AW→RX):condX a b t w (.bool false)=b t w:=rfl
@[simp] theorem blockX_normal (i:Nat):blockX i (.ok .normal t w)=.ok .normal t w:=rfl
@[simp] theorem blockX_ret (i:Nat):blockX i (.ok .ret t w)=.ok .ret t w:=rfl
@[simp] theorem blockX_exit (i j:Nat):blockX i (.ok (.exit j) t w)=if j=i then .ok .normal t w else .ok (.exit j) t w:=rfl
@[simp] theorem exG_true (k:Tm→AW→RX) (q:Bool) (d:Option Tmp) (y:Tm→AW→R):exG r k q d t w y (some true)=exN r k q d t (y t w):=rfl
@[simp] theorem exG_false (k:Tm→AW→RX) (q:Bool) (d:Option Tmp) (y:Tm→AW→R):exG r k q d t w y (some false)=k (putM d undef t) w:=rfl
@[simp] theorem exN_val (k:Tm→AW→RX) (q:Bool) (d:Option Tmp) (v:Value):exN r k q d t (.val v w)=k (putM d v t) w:=rfl
@[simp] theorem exN_enter (k:Tm→AW→RX) (d:Option Tmp) (f:FuncId) (args:List Value):exN r k false d t (.enter f args w)=retX k d t (r.call f args w .none):=rfl
@[simp] theorem exN_yield (k:Tm→AW→RX) (d:Option Tmp) (l:Nat) (args:List Value):exN r k false d t (.yield l args w)=yldM k d t (yieldA r l args w):=rfl
@[simp] theorem yldM_val (k:Tm→AW→RX) (d:Option Tmp) (b:Bool) (w':AW):yldM k d t (.val b w')=k (putM d (.bool b) t) w':=rfl
@[simp] theorem retX_ret (k:Tm→AW→RX) (d:Option Tmp) (v:Value) (x:Ctx):retX k d t (.ok (.ret v) w x)=k (putM d v t) w:=rfl
@[simp] theorem guard_none:guardX none t=some true:=rfl
@[simp] theorem guard_some (n:Nat) (b:Bool):guardX (some (n,b)) t=isB b (tget t n):=rfl
@[simp] theorem isB_tt:isB true (.bool true)=some true:=rfl
@[simp] theorem isB_tf:isB true (.bool false)=some false:=rfl
@[simp] theorem isB_ft:isB false (.bool true)=some false:=rfl
@[simp] theorem isB_ff:isB false (.bool false)=some true:=rfl
@[simp] theorem putM_some (d:Tmp) (v:Value):putM (some d) v t=tset t d v:=rfl
@[simp] theorem putM_none (v:Value):putM none v t=t:=rfl
@[simp] theorem op_move (ty:TypeId) (x:Operand):(opS P ty (.move x)).val t w=.val ((evS x).val t) w:=rfl
@[simp] theorem op_assign (ty:TypeId) (x:Operand):(opS P ty (.assign x)).val t w=.val ((evS x).val t) w:=rfl
@[simp] theorem op_pick (ty:TypeId) (c a b:Operand):(opS P ty (.pick c a b)).val t w=pickA w ((evS c).val t) ((evS a).val t) ((evS b).val t):=rfl
@[simp] theorem op_alloc (ty e:TypeId):(opS P ty (.alloc e)).val t w=allocA P w e:=rfl
@[simp] theorem op_box (ty e:TypeId) (x:Operand):(opS P ty (.box e x)).val t w=boxA w e ((evS x).val t):=rfl
@[simp] theorem op_build (ty s:TypeId) (ps:Array (Nat × Operand)):(opS P ty (.build s ps)).val t w=buildA P w s ((evP ps.toList).val t):=rfl
@[simp] theorem op_buildSlice (ty s:TypeId) (n:Nat) (ps:Array (Nat × Operand)):(opS P ty (.buildSlice s n ps)).val t w=buildSliceA P w s n ((evP ps.toList).val t):=rfl
@[simp] theorem op_load (ty s:TypeId) (a:Operand):(opS P ty (.load s a)).val t w=loadA P w s ((evS a).val t):=rfl
@[simp] theorem op_store (ty s:TypeId) (a x:Operand):(opS P ty (.store s a x)).val t w=storeA P w s ((evS a).val t) ((evS x).val t):=rfl
@[simp] theorem op_bin (ty s u:TypeId) (op:BinOp) (x y:Operand):(opS P ty (.binOp op s x y u)).val t w=(binW P op s (isConst x || isConst y)).val ((evS x).val t) ((evS y).val t) w:=rfl
@[simp] theorem op_un (ty s:TypeId) (op:UnOp) (x:Operand):(opS P ty (.unOp op s x)).val t w=vR w (unS op ((evS x).val t)):=rfl
@[simp] theorem op_convert (ty s d:TypeId) (x:Operand):(opS P ty (.convert s d x)).val t w=convertA P w s d ((evS x).val t):=rfl
@[simp] theorem op_makeMap (ty s:TypeId):(opS P ty (.makeMap s none)).val t w=makeMapA w:=rfl
@[simp] theorem op_makeSlice (ty s:TypeId) (l c:Operand):(opS P ty (.makeSlice s l c)).val t w=makeSliceA P w s ((evS l).val t) ((evS c).val t):=rfl
@[simp] theorem op_fieldAddr (ty s:TypeId) (x:Operand) (f:Nat):(opS P ty (.fieldAddr s x f)).val t w=fieldAddrA P w s f ((evS x).val t):=rfl
@[simp] theorem op_field (ty s:TypeId) (x:Operand) (f:Nat):(opS P ty (.field s x f)).val t w=fieldA P w s f ((evS x).val t):=rfl
@[simp] theorem op_indexAddr (ty s:TypeId) (x i:Operand):(opS P ty (.indexAddr s x i)).val t w=indexAddrA P w s ((evS x).val t) ((evS i).val t):=rfl
@[simp] theorem op_index (ty s:TypeId) (x i:Operand):(opS P ty (.index s x i)).val t w=indexA P w s ((evS x).val t) ((evS i).val t):=rfl
@[simp] theorem op_lookup (ty s:TypeId) (x k:Operand) (ok:Bool):(opS P ty (.lookup s x k ok)).val t w=lookupA P w s ((evS x).val t) ((evS k).val t) ok:=rfl
@[simp] theorem op_mapUpdate (ty s:TypeId) (m k x:Operand):(opS P ty (.mapUpdate s m k x)).val t w=mapUpdateA P w s ((evS m).val t) ((evS k).val t) ((evS x).val t):=rfl
@[simp] theorem op_extract (ty:TypeId) (x:Operand) (i:Nat):(opS P ty (.extract x i)).val t w=extractA w ((evS x).val t) i:=rfl
@[simp] theorem op_call (ty:TypeId) (f:FuncId) (args:Array Operand) (ts:Array TypeId):(opS P ty (.call ⟨.value (.func f),args,ts⟩)).val t w=callFn P w f ((evL args.toList).val t):=by
 show callFn P w f (appL (appL [] _) [])=_
 rw [appL_eq,appL_eq]
 simp
@[simp] theorem op_builtin (ty:TypeId) (b:Builtin) (args:Array Operand) (ts:Array TypeId):(opS P ty (.call ⟨.builtin b,args,ts⟩)).val t w=builtinA P w b ts ty ((evL args.toList).val t):=rfl
theorem callFn_enter {f:FuncId} {n:Nat} {rs:List ResultVar} {mc:MC} (h:textF P f=some (n,rs,mc)) (args:List Value):callFn P w f args=.enter f args w:=by
 unfold textF at h
 unfold callFn
 cases hb:bodyOf P f with
 | none=>rw [hb] at h; cases h
 | some p =>
  rw [hb] at h
  obtain ⟨fn,body⟩:=p
  cases body with
  | none=>cases h
  | some b=>rfl
def hasBody (P:Program) (f:FuncId):Bool:=match bodyOf P f with | some p=>p.2.isSome | none=>false
theorem callFn_of {f:FuncId} (h:hasBody P f=true) (args:List Value):callFn P w f args=.enter f args w:=by
 unfold hasBody at h
 unfold callFn
 cases hb:bodyOf P f with
 | none=>rw [hb] at h; cases h
 | some p =>
  rw [hb] at h
  obtain ⟨fn,body⟩:=p
  cases body with
  | none=>cases h
  | some b=>rfl
@[simp] theorem vR_some (v:Value):vR w (some v)=.val v w:=rfl
@[simp] theorem pick_true (a b:Value):pickA w (.bool true) a b=.val a w:=rfl
@[simp] theorem pick_false (a b:Value):pickA w (.bool false) a b=.val b w:=rfl
@[simp] theorem un_not (b:Bool):unS .not (.bool b)=some (.bool (!b)):=rfl
theorem sameK_refl (k:IntKind):sameK k k=true:=by cases k <;> rfl
@[simp] theorem bin_add (s:TypeId) (c:Bool) (k:IntKind) (a b:Int):(binW P .add s c).val (.int k a) (.int k b) w=.val (.int k (k.wrap (a + b))) w:=by
 show vR w (addA (.int k a) (.int k b))=_
 simp [addA,sameK_refl,wrapA_eq,vR]
@[simp] theorem bin_sub (s:TypeId) (c:Bool) (k:IntKind) (a b:Int):(binW P .sub s c).val (.int k a) (.int k b) w=.val (.int k (k.wrap (a - b))) w:=by
 show vR w (arithA subA (.int k a) (.int k b))=_
 simp [arithA,subA,sameK_refl,wrapA_eq,vR]
@[simp] theorem bin_mul (s:TypeId) (c:Bool) (k:IntKind) (a b:Int):(binW P .mul s c).val (.int k a) (.int k b) w=.val (.int k (k.wrap (a * b))) w:=by
 show vR w (arithA mulA (.int k a) (.int k b))=_
 simp [arithA,mulA,sameK_refl,wrapA_eq,vR]
theorem bin_rem (s:TypeId) (c:Bool) (k:IntKind) (a b:Int) (h:b ≠ 0):(binW P .rem s c).val (.int k a) (.int k b) w=.val (.int k (a.tmod b)) w:=by
 show vR w (arithA remA (.int k a) (.int k b))=_
 have:(b == 0)=false:=by simpa using h
 simp [arithA,remA,sameK_refl,vR,intEq_eq,this]
@[simp] theorem bin_lss (s:TypeId) (c:Bool) (k:IntKind) (a b:Int):(binW P .lss s c).val (.int k a) (.int k b) w=.val (.bool (decide (a < b))) w:=by
 show vR w (cmpA intLt bytesLess (.int k a) (.int k b))=_
 simp [cmpA,sameK_refl,vR,intLt_eq]
@[simp] theorem bin_leq (s:TypeId) (c:Bool) (k:IntKind) (a b:Int):(binW P .leq s c).val (.int k a) (.int k b) w=.val (.bool (decide (a≤b))) w:=by
 show vR w (cmpA intLe leS (.int k a) (.int k b))=_
 simp [cmpA,sameK_refl,vR,intLe_eq]
@[simp] theorem bin_gtr (s:TypeId) (c:Bool) (k:IntKind) (a b:Int):(binW P .gtr s c).val (.int k a) (.int k b) w=.val (.bool (decide (b < a))) w:=by
 show vR w (cmpA gtI gtS (.int k a) (.int k b))=_
 simp [cmpA,sameK_refl,vR,gtI,intLt_eq]
@[simp] theorem bin_geq (s:TypeId) (c:Bool) (k:IntKind) (a b:Int):(binW P .geq s c).val (.int k a) (.int k b) w=.val (.bool (decide (b≤a))) w:=by
 show vR w (cmpA geI geS (.int k a) (.int k b))=_
 simp [cmpA,sameK_refl,vR,geI,intLe_eq]
theorem bin_eql {s:TypeId} {ag:Bool} {ks:List Nat} (h:eqKind P s=.flat ag ks) (c:Bool) (x y:Value):(binW P .eql s c).val x y w=vR w ((eqFlat ag ks x y).map .bool):=by
 show vR w (eqlA P w c s x y)=_
 unfold eqlA eqT
 rw [h]
 simp only
 cases eqFlat ag ks x y <;> rfl
theorem bin_neq {s:TypeId} {ag:Bool} {ks:List Nat} (h:eqKind P s=.flat ag ks) (c:Bool) (x y:Value):(binW P .neq s c).val x y w=vR w ((eqFlat ag ks x y).map fun b=>.bool (!b)):=by
 show vR w (neqA P w c s x y)=_
 unfold neqA eqT
 rw [h]
 simp only
 cases eqFlat ag ks x y <;> rfl
@[simp] theorem eqFlat_int (k:IntKind) (a b:Int):eqFlat false [0] (.int k a) (.int k b)=some (decide (a=b)):=by
 simp [eqFlat,flatCells,sameL,same1,sameInt,sameK_refl,intEq_eq]
 by_cases h:a=b
 ·simp [h]
 ·have:(a == b)=false:=by simpa using h
  simp [h,this]
@[simp] theorem eqFlat_bool (a b:Bool):eqFlat false [1] (.bool a) (.bool b)=some (a == b):=by
 simp [eqFlat,flatCells,sameL,same1,sameBool]
 cases a <;> cases b <;> rfl
@[simp] theorem eqFlat_agg (ks:List Nat) (x y:List Value):eqFlat true ks (.agg ⟨x⟩) (.agg ⟨y⟩)=sameL ks x y:=rfl
@[simp] theorem sameL_nil:sameL [] [] []=some true:=rfl
@[simp] theorem cond_some (b c:Bool):(bif b then some c else some false)=some (b && c):=by cases b <;> rfl
def cellsO (o:Option AObj):Option (List Value):=match o with | some (.cells c _ _)=>some c | _=>none
@[simp] theorem cellsO_some (c:List Value) (e:TypeId) (ro:Bool):cellsO (some (.cells c e ro))=some c:=rfl
@[simp] theorem cellsAt_eq (b:Nat):cellsAt w b=cellsO (w.heap.get b):=by
 unfold cellsAt cellsO
 cases w.heap.get b with
 | none=>rfl
 | some o=>cases o <;> rfl
def rd1O (o:Option AObj) (off:Nat):Option Value:=(cellsO o).bind fun c=>c[off]?
def rdO (o:Option AObj) (off n:Nat):Option (List Value):=(cellsO o).bind fun c=>if off + n≤c.length then some ((c.drop off).take n) else none
@[simp] theorem rd1O_cells (c:List Value) (e:TypeId) (ro:Bool) (off:Nat):rd1O (some (.cells c e ro)) off=c[off]?:=by simp [rd1O]
@[simp] theorem rdO_cells (c:List Value) (e:TypeId) (ro:Bool) (off n:Nat):rdO (some (.cells c e ro)) off n=if off + n≤c.length then some ((c.drop off).take n) else none:=by simp [rdO]
@[simp] theorem rd1_eq (b off:Nat):rd1 w b off=rd1O (w.heap.get b) off:=by
 unfold rd1 rd1O
 rw [cellsAt_eq]
 cases cellsO (w.heap.get b) with
 | none=>rfl
 | some c=>simp [nth_eq]
@[simp] theorem rd_eq (b off n:Nat):rd w b off n=rdO (w.heap.get b) off n:=by
 unfold rd rdO
 rw [cellsAt_eq]
 cases cellsO (w.heap.get b) with
 | none=>rfl
 | some c =>
  simp only [takeL_eq,dropL_eq,lenL0,Option.bind_some]
  by_cases h:off + n≤c.length
  ·have h':Nat.ble (off + n) c.length=true:=by simpa using h
   rw [if_pos h,h']; rfl
  ·rw [if_neg h]
   have:Nat.ble (off + n) c.length=false:=by rw [← Bool.not_eq_true,Nat.ble_eq]; exact h
   rw [this]; rfl
attribute [simp] tget_nil
@[simp] theorem tget_set (t:Tm) (k:Nat) (a:Value) (j:Nat) (h:k≤60000):tget (tset t k a) j=if j=k then a else tget t j:=tget_tset t k a j h
attribute [simp] get_put
attribute [simp] add_block add_off
def aggM (o:Option (List Value)):Option Value:=match o with | some c=>some (.agg ⟨c⟩) | none=>none
@[simp] theorem aggM_some (c:List Value):aggM (some c)=some (.agg ⟨c⟩):=rfl
theorem load_one {s:TypeId} (h:aggOf P s=some false) (a:Addr):loadA P w s (.pointer (some a))=vR w (rd1 w a.block a.off):=by
 simp [loadA,ldA,h]
theorem load_agg {s:TypeId} {n:Nat} (h:aggOf P s=some true) (hn:szOf P s=some n) (a:Addr):loadA P w s (.pointer (some a))=vR w (aggM (rd w a.block a.off n)):=by
 simp only [loadA,ldA,h,hn,cond_true]
 unfold aggM
 cases rd w a.block a.off n <;> rfl
@[simp] theorem box_eq (e:TypeId) (x:Value):boxA w e x=.val (.pointer (some ⟨w.next,0,none⟩)) ⟨w.heap.put w.next (some (.cells (cellsOf x) e false)),w.next + 1,w.lim⟩:=rfl
theorem alloc_eq {e:TypeId} {z:Value} (h:zeroA P e=some z):allocA P w e=.val (.pointer (some ⟨w.next,0,none⟩)) ⟨w.heap.put w.next (some (.cells (cellsOf z) e false)),w.next + 1,w.lim⟩:=by
 simp [allocA,h,newR,AW.add,ptrV]
@[simp] theorem cellsOf_agg (c:List Value):cellsOf (.agg ⟨c⟩)=c:=rfl
@[simp] theorem cellsOf_int (k:IntKind) (a:Int):cellsOf (.int k a)=[.int k a]:=rfl
@[simp] theorem cellsOf_bool (a:Bool):cellsOf (.bool a)=[.bool a]:=rfl
@[simp] theorem cellsOf_string (a:ByteArray):cellsOf (.string a)=[.string a]:=rfl
@[simp] theorem cellsOf_slice (a:Option Addr) (l c:Nat):cellsOf (.slice a l c)=[.slice a l c]:=rfl
@[simp] theorem cellsOf_pointer (a:Option Addr):cellsOf (.pointer a)=[.pointer a]:=rfl
@[simp] theorem cellsOf_map (a:Option Nat):cellsOf (.map a)=[.map a]:=rfl
def wrO (w:AW) (b off:Nat) (vs:List Value) (o:Option AObj):Option AW:=match o with | some (.cells c e ro)=>wrC w b off vs c e ro | _=>none
@[simp] theorem wr_eq (b off:Nat) (vs:List Value):wr w b off vs=wrO w b off vs (w.heap.get b):=by
 unfold wr wrO
 cases w.heap.get b with
 | none=>rfl
 | some o=>cases o <;> rfl
@[simp] theorem wrO_cells {b off:Nat} {vs c:List Value} {e:TypeId} (hs:singles vs=true) (hl:w.lim≤b) (hf:off + vs.length≤c.length) :
  wrO w b off vs (some (.cells c e false))=some ⟨w.heap.put b (some (.cells (c.take off++(vs++c.drop (off + vs.length))) e false)),w.next,w.lim⟩:=by
 have h1:Nat.ble w.lim b=true:=by simpa using hl
 have h2:Nat.ble (off + lenL vs 0) (lenL c 0)=true:=by rw [lenL0,lenL0]; simpa using hf
 simp [wrO,wrC,hs,h1,h2,AW.set]
 rw [spliceL_eq off c vs (by omega)]
theorem store_eq {s:TypeId} {n:Nat} (hn:szOf P s=some n) (a:Addr) (x:Value) (hx:(cellsOf x).length=n):storeA P w s (.pointer (some a)) x=wR (wr w a.block a.off (cellsOf x)) undef:=by
 have:Nat.beq (lenL (cellsOf x) 0) n=true:=by rw [lenL0,hx]; exact Nat.beq_refl n
 simp [storeA,hn,this,storeB]
@[simp] theorem wR_some (w':AW) (v:Value):wR (some w') v=.val v w':=rfl
theorem singles_c (v:Value) (l:List Value) (h:single v=true):singles (v::l)=singles l:=by simp [singles,h]
@[simp] theorem singles_int (k:IntKind) (a:Int) (l:List Value):singles (.int k a::l)=singles l:=singles_c _ _ rfl
@[simp] theorem singles_bool (a:Bool) (l:List Value):singles (.bool a::l)=singles l:=singles_c _ _ rfl
@[simp] theorem singles_slice (a:Option Addr) (n c:Nat) (l:List Value):singles (.slice a n c::l)=singles l:=singles_c _ _ rfl
@[simp] theorem singles_nil:singles []=true:=by simp [singles]
@[simp] theorem extract_eq (vs:List Value) (i:Nat):extractA w (.tuple ⟨vs⟩) i=vR w vs[i]?:=by
 show vR w (nth vs i)=_
 rw [nth_eq]
@[simp] theorem res_tmp (n:Nat):resA P t w (.tmp n)=notJunk (tget t n):=rfl
@[simp] theorem ress_nil:ressA P t w []=some []:=rfl
@[simp] theorem ress_cons {rv:ResultVar} {rs:List ResultVar}:ressA P t w (rv::rs)=(resA P t w rv).bind fun v=>(ressA P t w rs).bind fun vs=>some (v::vs):=by
 show (match resA P t w rv with | none=>none | some v=>match ressA P t w rs with | none=>none | some vs=>some (v::vs))=_
 cases resA P t w rv with
 | none=>rfl
 | some v=>cases ressA P t w rs <;> rfl
@[simp] theorem notJunk_bool (b:Bool):notJunk (.bool b)=some (.bool b):=rfl
@[simp] theorem notJunk_int (k:IntKind) (a:Int):notJunk (.int k a)=some (.int k a):=rfl
@[simp] theorem notJunk_string (a:ByteArray):notJunk (.string a)=some (.string a):=rfl
@[simp] theorem notJunk_slice (a:Option Addr) (l c:Nat):notJunk (.slice a l c)=some (.slice a l c):=rfl
@[simp] theorem notJunk_agg (a:Array Value):notJunk (.agg a)=some (.agg a):=rfl
def ldP (P:Program) (w:AW) (ty:TypeId) (v:Value):Option Value:=match v with | .pointer (some a)=>ldA P w ty a | _=>none
@[simp] theorem res_cell (n:Nat) (ty:TypeId):resA P t w (.cell n ty)=ldP P w ty (tget t n):=rfl
@[simp] theorem ldP_ptr (ty:TypeId) (a:Addr):ldP P w ty (.pointer (some a))=ldA P w ty a:=rfl
theorem ld_agg {s:TypeId} {n:Nat} (h:aggOf P s=some true) (hn:szOf P s=some n) (a:Addr):ldA P w s a=aggM (rd w a.block a.off n):=by
 simp only [ldA,h,hn,cond_true]
 unfold aggM
 cases rd w a.block a.off n <;> rfl
@[simp] theorem addr_add (b o k:Nat):(⟨b,o,none⟩:Addr).add k=⟨b,o + k,none⟩:=by
 unfold Addr.add
 by_cases h:k=0
 ·subst h; rfl
 ·rw [if_neg h]
@[simp] theorem builtin_len (ts:Array TypeId) (ty:TypeId) (args:List Value):builtinA P w .len ts ty args=len1 P w ts.toList args:=rfl
@[simp] theorem len1_eq (a:TypeId) (ts:List TypeId) (x:Value) (xs:List Value):len1 P w (a::ts) (x::xs)=lenB P w a x:=rfl
theorem len_slice {s e:TypeId} (h:P.underlying s=some (.slice e)) (a:Option Addr) (n c:Nat):lenB P w s (.slice a n c)=.val (.int .i64 n) w:=by simp [lenB,h,intV]
theorem indexAddr_slice {s e:TypeId} {sz:Nat} (h:P.underlying s=some (.slice e)) (hz:szOf P e=some sz) (a:Addr) (n c:Nat) (k:IntKind) (i:Nat) (hi:i < n):indexAddrA P w s (.slice (some a) n c) (.int k (i:Int))=.val (.pointer (some (a.add (i * sz)))) w:=by
 show indexAddrC P w s (.slice (some a) n c) (Int.ofNat i)=_
 have h1:Nat.blt i n=true:=by simpa [Nat.blt_eq] using hi
 simp [indexAddrC,elemA,h,indexAddrB,idxIn,h1,hz]
theorem wp_blockX {id:Nat} {x:RX} {Q:Ex→Tm→AW→Prop} (h:wp x (blockQ id Q)):wp (blockX id x) Q:=by
 cases x with
 | fail=>exact h.elim
 | ok ex t w =>
  cases ex with
  | exit i =>
   have h:(if i=id then Q .normal t w else Q (.exit i) t w):=h
   show wp (if i=id then .ok .normal t w else .ok (.exit i) t w) Q
   by_cases hi:i=id
   ·rw [if_pos hi] at h ⊢; exact h
   ·rw [if_neg hi] at h ⊢; exact h
  | _=>exact h
@[simp] theorem wp_ok_iff (ex:Ex) (t:Tm) (w:AW) (Q:Ex→Tm→AW→Prop):wp (.ok ex t w) Q=Q ex t w:=rfl
@[simp] theorem thenQ_normal (k:Tm→AW→RX) (Q:Ex→Tm→AW→Prop) (t:Tm) (w:AW):thenQ k Q .normal t w=wp (k t w) Q:=rfl
@[simp] theorem thenQ_ret (k:Tm→AW→RX) (Q:Ex→Tm→AW→Prop) (t:Tm) (w:AW):thenQ k Q .ret t w=Q .ret t w:=rfl
@[simp] theorem thenQ_exit (k:Tm→AW→RX) (Q:Ex→Tm→AW→Prop) (i:Nat) (t:Tm) (w:AW):thenQ k Q (.exit i) t w=Q (.exit i) t w:=rfl
@[simp] theorem blockQ_normal (i:Nat) (Q:Ex→Tm→AW→Prop) (t:Tm) (w:AW):blockQ i Q .normal t w=Q .normal t w:=rfl
@[simp] theorem blockQ_ret (i:Nat) (Q:Ex→Tm→AW→Prop) (t:Tm) (w:AW):blockQ i Q .ret t w=Q .ret t w:=rfl
@[simp] theorem blockQ_exit (i j:Nat) (Q:Ex→Tm→AW→Prop) (t:Tm) (w:AW):blockQ i Q (.exit j) t w=if j=i then Q .normal t w else Q (.exit j) t w:=rfl
def roundQ (n i:Nat) (I:Nat→Tm→AW→Prop) (Q:Ex→Tm→AW→Prop):Ex→Tm→AW→Prop:=fun ex t w=>match ex with | .normal=>i < n∧I (i + 1) t w | ex=>Q ex t w
@[simp] theorem roundQ_normal (n i:Nat) (I:Nat→Tm→AW→Prop) (Q:Ex→Tm→AW→Prop) (t:Tm) (w:AW):roundQ n i I Q .normal t w=(i < n∧I (i + 1) t w):=rfl
@[simp] theorem roundQ_ret (n i:Nat) (I:Nat→Tm→AW→Prop) (Q:Ex→Tm→AW→Prop) (t:Tm) (w:AW):roundQ n i I Q .ret t w=Q .ret t w:=rfl
@[simp] theorem roundQ_exit (n i j:Nat) (I:Nat→Tm→AW→Prop) (Q:Ex→Tm→AW→Prop) (t:Tm) (w:AW):roundQ n i I Q (.exit j) t w=Q (.exit j) t w:=rfl
theorem wp_rounds {b:MC} {Q:Ex→Tm→AW→Prop} (I:Nat→Tm→AW→Prop) (n:Nat) (hn:n < 4611686018427387904) (h0:I 0 t w) (hstep:∀ i t w,I i t w→wp (exM P r b t w) (roundQ n i I Q)):wp (exM P r (.loop b) t w) Q :=
 wp_loop I n hn h0 fun i t w h=>(hstep i t w h).mono fun ex t' w' h=>by cases ex <;> exact h
end
end Go.Sh
namespace Go.Sh
open Go
noncomputable section
variable {P:Program} {r:Rec} {t:Tm} {w:AW}
@[simp] theorem makeMap_eq:makeMapA w=.val (.map (some w.next)) ⟨w.heap.put w.next (some (.map [] 0)),w.next + 1,w.lim⟩:=rfl
end
end Go.Sh
namespace Go.Sh
open Go
noncomputable section
variable {P:Program} {φ:Inj} {W:World}
inductive WT (P:Program) (H:T AObj) (n:Nat):TypeId→List Value→Prop
 | int {t:TypeId} {k:IntKind} {z:Int} (hu:P.underlying t=some (.int k)) (hw:(Lit.int k z).wf=true):WT P H n t [.int k z]
 | bool {t:TypeId} {b:Bool} (hu:P.underlying t=some .bool):WT P H n t [.bool b]
 | string {t:TypeId} {s:ByteArray} (hu:P.underlying t=some .string) (hs:s.size≤maxLen):WT P H n t [.string s]
 | slNil {t e:TypeId} (hu:P.underlying t=some (.slice e)):WT P H n t [.slice none 0 0]
 | sl0 {t e:TypeId} {b:Nat} (hu:P.underlying t=some (.slice e)):WT P H n t [.slice (some ⟨b,0,some 1⟩) 0 0]
 | sl {t e ty:TypeId} {b k:Nat} {c:List Value} {ro:Bool} (hu:P.underlying t=some (.slice e)) (hb:b < n) (hg:H.get b=some (.cells c ty ro)) (hk:0 < k) (hm:k≤maxLen) (hc:c.length=k * P.cellsOf e)
   (he:∀ i,i < k→WT P H n e ((c.drop (i * P.cellsOf e)).take (P.cellsOf e))):WT P H n t [.slice (some ⟨b,0,some 1⟩) k k]
 | struct {t:TypeId} {fs:Array Field} {cs:List Value} (hu:P.underlying t=some (.struct fs)) (hl:cs.length=P.cellsOf t) (hf:∀ f ∈ fs.toList,WT P H n f.type ((cs.drop f.offset).take (P.cellsOf f.type))):WT P H n t cs
 | array {t e:TypeId} {k:Nat} {cs:List Value} (hu:P.underlying t=some (.array k e)) (hl:cs.length=P.cellsOf t) (hf:∀ i,i < k→WT P H n e ((cs.drop (i * P.cellsOf e)).take (P.cellsOf e))):WT P H n t cs
theorem WT.mono {H H':T AObj} {n n':Nat} (hn:n≤n') (hH:∀ b,b < n→H'.get b=H.get b) {t:TypeId} {cs:List Value} (h:WT P H n t cs):WT P H' n' t cs:=by
 induction h with
 | int hu hw=>exact .int hu hw
 | bool hu=>exact .bool hu
 | string hu hs=>exact .string hu hs
 | slNil hu=>exact .slNil hu
 | sl0 hu=>exact .sl0 hu
 | sl hu hb hg hk hm hc _ ih=>exact .sl hu (Nat.lt_of_lt_of_le hb hn) ((hH _ hb).trans hg) hk hm hc ih
 | struct hu hl _ ih=>exact .struct hu hl ih
 | array hu hl _ ih=>exact .array hu hl ih
theorem MR.window {H:T AObj} {n:Nat} (hM:MR P φ ⟨H,n,n⟩ W) (hG:P.globals.size≤n) {blk off:Nat} {c cc:List Value} {e:TypeId} {fz:Nat × Nat} (hb:W.heap[blk]?=some (.cells ⟨cc⟩ e fz)) (hf:off + c.length≤cc.length) (hc:LR φ c ((cc.drop off).take c.length)) :
  ∃ φ',MR P φ' ⟨H.put n (some (.cells c e true)),n + 1,n + 1⟩ W∧φ.le φ'∧φ' n=some (.at_ blk cc.length ((szOf P e).getD 0) off):=by
 have hn:φ n=none:=hM.fresh n (Nat.le_refl _)
 let ψ:Inj:=fun b=>if b=n then some (.at_ blk cc.length ((szOf P e).getD 0) off) else φ b
 have hψ:∀ b,ψ b=if b=n then some (.at_ blk cc.length ((szOf P e).getD 0) off) else φ b:=fun _=>rfl
 have hle:φ.le ψ:=fun b x hx=>.inl (by rw [hψ,if_neg]; exact hx; rintro rfl; rw [hn] at hx; cases hx)
 have hget:∀ b,(H.put n (some (.cells c e true))).get b=if b=n then some (.cells c e true) else H.get b:=fun b=>get_put _ _ _ _
 refine ⟨ψ,⟨fun b c1 n1 s1 d1 hx=>?_,fun b hx=>?_,fun b b' c1 n1 s1 d1 n2 s2 d2 hx hy hlx=>?_,fun b hx=>?_,fun g hg=>?_,Nat.le_refl _⟩,hle,by rw [hψ,if_pos rfl]⟩
 ·rw [hψ] at hx
  by_cases h1:b=n
  ·rw [if_pos h1] at hx
   injection hx with hx
   injection hx with e1 e2 e3 e4
   subst e1 e2 e3 e4
   exact ⟨.cells c e true,_,by show (H.put n (some (.cells c e true))).get b=_; rw [hget,if_pos h1],hb,cc,e,fz,rfl,⟨rfl,rfl,rfl,hf,hc.mono hle,(fun h=>by cases h),(fun h=>by cases h)⟩⟩
  ·rw [if_neg h1] at hx
   obtain ⟨o,oc,g1,g2,g3⟩:=hM.obj _ _ _ _ _ hx
   exact ⟨o,oc,by show (H.put n _).get b=_; rw [hget,if_neg h1]; exact g1,g2,g3.mono hle⟩
 ·rw [hψ] at hx
  by_cases h1:b=n
  ·rw [if_pos h1] at hx; cases hx
  ·rw [if_neg h1] at hx
   show (H.put n (some (.cells c e true))).get b=none
   rw [hget,if_neg h1]; exact hM.dead b hx
 ·have h1:n + 1≤b:=hlx
  rw [hψ,if_neg (by omega)] at hx
  have:=hM.fresh b (show n≤b by omega)
  rw [this] at hx; cases hx
 ·have h1:n + 1≤b:=hx
  rw [hψ,if_neg (by omega)]
  exact hM.fresh b (show n≤b by omega)
 ·rw [hψ,if_neg (by omega)]
  exact hM.globals g hg
theorem MR.gone {H:T AObj} {n:Nat} (hM:MR P φ ⟨H,n,n⟩ W) (hG:P.globals.size≤n):∃ φ',MR P φ' ⟨H.put n none,n + 1,n + 1⟩ W∧φ.le φ'∧φ' n=some .dead:=by
 have hn:φ n=none:=hM.fresh n (Nat.le_refl _)
 let ψ:Inj:=fun b=>if b=n then some .dead else φ b
 have hψ:∀ b,ψ b=if b=n then some .dead else φ b:=fun _=>rfl
 have hle:φ.le ψ:=fun b x hx=>.inl (by rw [hψ,if_neg]; exact hx; rintro rfl; rw [hn] at hx; cases hx)
 have hget:∀ b,(H.put n none).get b=if b=n then none else H.get b:=fun b=>get_put _ _ _ _
 refine ⟨ψ,⟨fun b c1 n1 s1 d1 hx=>?_,fun b hx=>?_,fun b b' c1 n1 s1 d1 n2 s2 d2 hx hy hlx=>?_,fun b hx=>?_,fun g hg=>?_,Nat.le_refl _⟩,hle,by rw [hψ,if_pos rfl]⟩
 ·rw [hψ] at hx
  by_cases h1:b=n
  ·rw [if_pos h1] at hx; cases hx
  ·rw [if_neg h1] at hx
   obtain ⟨o,oc,g1,g2,g3⟩:=hM.obj _ _ _ _ _ hx
   exact ⟨o,oc,by show (H.put n _).get b=_; rw [hget,if_neg h1]; exact g1,g2,g3.mono hle⟩
 ·rw [hψ] at hx
  show (H.put n none).get b=none
  by_cases h1:b=n
  ·rw [hget,if_pos h1]
  ·rw [if_neg h1] at hx
   rw [hget,if_neg h1]; exact hM.dead b hx
 ·have h1:n + 1≤b:=hlx
  rw [hψ,if_neg (by omega)] at hx
  have:=hM.fresh b (show n≤b by omega)
  rw [this] at hx; cases hx
 ·have h1:n + 1≤b:=hx
  rw [hψ,if_neg (by omega)]
  exact hM.fresh b (show n≤b by omega)
 ·rw [hψ,if_neg (by omega)]
  exact hM.globals g hg
def tyFs (ok:TypeId→Bool) (sz:TypeId→Nat):List Field→Nat→Option Nat
 | [],off=>some off
 | f::fs,off=>if f.offset=off∧ok f.type=true then tyFs ok sz fs (off + sz f.type) else none
def tyOk (P:Program):Nat→TypeId→Bool
 | 0,_=>false
 | d + 1,t =>
  match P.underlying t with
  | some (.int _)=>P.cellsOf t == 1
  | some .bool=>P.cellsOf t == 1
  | some .string=>P.cellsOf t == 1
  | some (.slice e)=>P.cellsOf t == 1 && (tyOk P d e && decide (0 < P.cellsOf e))
  | some (.struct fs)=>tyFs (tyOk P d) P.cellsOf fs.toList 0 == some (P.cellsOf t)
  | some (.array k e)=>tyOk P d e && (P.cellsOf t == k * P.cellsOf e)
  | _=>false
def Lays (P:Program) (W:World) (t:TypeId) (cs:List Value):Prop:=∀ (φ:Inj) (H:T AObj) (n:Nat),MR P φ ⟨H,n,n⟩ W→P.globals.size≤n →
 ∃ φ' H' n' mcs,MR P φ' ⟨H',n',n'⟩ W∧φ.le φ'∧n≤n'∧(∀ b,b < n→H'.get b=H.get b)∧LR φ' mcs cs∧WT P H' n' t mcs
theorem Lays.same {t:TypeId} {cs mcs:List Value} (h:∀ φ,LR φ mcs cs) (k:∀ H n,WT P H n t mcs):Lays P W t cs:=fun φ H n hM hG=>⟨φ,H,n,mcs,hM,φ.le_refl,Nat.le_refl _,fun _ _=>rfl,h φ,k H n⟩
theorem LR.split {a b:List Value}:∀ {l:List Value},LR φ l (a++b)→∃ x y,l=x++y∧LR φ x a∧LR φ y b:=by
 induction a with
 | nil=>intro l h; exact ⟨[],l,rfl,.nil,h⟩
 | cons u a ih =>
  intro l h
  cases h with
  | cons h k =>
   obtain ⟨x,y,rfl,h1,h2⟩:=ih k
   exact ⟨_::x,y,rfl,.cons h h1,h2⟩
theorem lays_rows {e:TypeId} {sz:Nat}:∀ (k off:Nat) (cc:List Value),(∀ i,i < k→Lays P W e ((cc.drop (off + i * sz)).take sz))→off + k * sz≤cc.length→∀ (φ:Inj) (H:T AObj) (n:Nat),MR P φ ⟨H,n,n⟩ W→P.globals.size≤n →
  ∃ φ' H' n' c,MR P φ' ⟨H',n',n'⟩ W∧φ.le φ'∧n≤n'∧(∀ b,b < n→H'.get b=H.get b)∧c.length=k * sz∧LR φ' c ((cc.drop off).take (k * sz))∧∀ i,i < k→WT P H' n' e ((c.drop (i * sz)).take sz)
 | 0,off,cc,_,_,φ,H,n,hM,hG=>⟨φ,H,n,[],hM,φ.le_refl,Nat.le_refl _,fun _ _=>rfl,by simp,by simp; exact .nil,fun i hi=>by omega⟩
 | k + 1,off,cc,h,hl,φ,H,n,hM,hG=>by
  have hl1:off + k * sz + sz≤cc.length:=by rw [Nat.add_mul] at hl; omega
  obtain ⟨φ1,H1,n1,c1,g1,g2,g3,g4,g5,g6,g7⟩:=lays_rows k off cc (fun i hi=>h i (by omega)) (by omega) φ H n hM hG
  obtain ⟨φ2,H2,n2,c2,k1,k2,k3,k4,k5,k6⟩:=h k (by omega) φ1 H1 n1 g1 (Nat.le_trans hG g3)
  have hc2:c2.length=sz:=by have:=k5.length; rw [this]; simp; omega
  refine ⟨φ2,H2,n2,c1++c2,k1,Inj.le_trans g2 k2,Nat.le_trans g3 k3,fun b hb=>(k4 b (by omega)).trans (g4 b hb),by simp [g5,hc2,Nat.add_mul],?_,fun i hi=>?_⟩
  ·rw [Nat.add_mul,Nat.one_mul,List.take_add,List.drop_drop]
   exact (g6.mono k2).append k5
  ·by_cases h1:i < k
   ·have h2:i * sz + sz≤c1.length:=by
     rw [g5]
     have:=Nat.mul_le_mul_right sz (show i + 1≤k from h1)
     rw [Nat.add_mul] at this; omega
    rw [List.drop_append_of_le_length (by omega),List.take_append_of_le_length (by simp; omega)]
    exact (g7 i h1).mono k3 k4
   ·obtain rfl:i=k:=by omega
    rw [← g5,List.drop_left,List.take_of_length_le (by omega)]
    exact k6
theorem lays_fields:∀ (fs:List Field) (d off tot:Nat) (cs:List Value),tyFs (tyOk P d) P.cellsOf fs off=some tot→(∀ f ∈ fs,Lays P W f.type ((cs.drop f.offset).take (P.cellsOf f.type)))→tot≤cs.length→∀ (φ:Inj) (H:T AObj) (n:Nat),MR P φ ⟨H,n,n⟩ W→P.globals.size≤n →
  off≤tot∧∃ φ' H' n' c,MR P φ' ⟨H',n',n'⟩ W∧φ.le φ'∧n≤n'∧(∀ b,b < n→H'.get b=H.get b)∧c.length=tot - off∧LR φ' c ((cs.drop off).take (tot - off))∧∀ f ∈ fs,off≤f.offset∧WT P H' n' f.type ((c.drop (f.offset - off)).take (P.cellsOf f.type))
 | [],d,off,tot,cs,ht,_,hl,φ,H,n,hM,hG=>by
  cases ht
  exact ⟨Nat.le_refl _,φ,H,n,[],hM,φ.le_refl,Nat.le_refl _,fun _ _=>rfl,by simp,by simp; exact .nil,fun f hf=>by cases hf⟩
 | f::fs,d,off,tot,cs,ht,h,hl,φ,H,n,hM,hG=>by
  unfold tyFs at ht
  split at ht
  ·rename_i hok
   obtain ⟨ho,_⟩:=hok
   obtain ⟨φ1,H1,n1,c1,k1,k2,k3,k4,k5,k6⟩:=h f (List.mem_cons_self ..) φ H n hM hG
   obtain ⟨q0,φ2,H2,n2,c2,g1,g2,g3,g4,g5,g6,g7⟩:=lays_fields fs d (off + P.cellsOf f.type) tot cs ht (fun f hf=>h f (List.mem_cons_of_mem _ hf)) hl φ1 H1 n1 k1 (Nat.le_trans hG k3)
   have hc1:c1.length=P.cellsOf f.type:=by have:=k5.length; rw [this]; simp; omega
   have e1:tot - off=P.cellsOf f.type + (tot - (off + P.cellsOf f.type)):=by omega
   refine ⟨by omega,φ2,H2,n2,c1++c2,g1,Inj.le_trans k2 g2,Nat.le_trans k3 g3,fun b hb=>(g4 b (by omega)).trans (k4 b hb),by simp [hc1,g5]; omega,?_,fun x hx=>?_⟩
   ·rw [e1,List.take_add,List.drop_drop]
    rw [ho] at k5
    exact (k5.mono g2).append g6
   ·rcases List.mem_cons.1 hx with rfl | hx
    ·refine ⟨by omega,?_⟩
     rw [ho,Nat.sub_self,List.drop_zero,List.take_append_of_le_length (by omega),List.take_of_length_le (by omega)]
     exact k6.mono g3 g4
    ·obtain ⟨q1,q2⟩:=g7 x hx
     refine ⟨by omega,?_⟩
     have e2:x.offset - off=c1.length + (x.offset - (off + P.cellsOf f.type)):=by omega
     rw [e2,← List.drop_drop,List.drop_left]
     exact q2
  ·cases ht
theorem tyFs_le {ok:TypeId→Bool} {sz:TypeId→Nat}:∀ (fs:List Field) (off tot:Nat),tyFs ok sz fs off=some tot→∀ f ∈ fs,ok f.type=true
 | [],off,tot,h,f,hf=>by cases hf
 | g::fs,off,tot,h,f,hf=>by
  unfold tyFs at h
  split at h
  ·rename_i hok
   rcases List.mem_cons.1 hf with rfl | hf
   ·exact hok.2
   ·exact tyFs_le fs _ tot h f hf
  ·cases h
theorem mapM_mem {α β:Type} {f:α→Option β} {l:List α} {r:List β} (h:l.mapM f=some r) (a:α) (ha:a ∈ l):∃ b,f a=some b:=by
 obtain ⟨i,hi⟩:=List.mem_iff_getElem?.1 ha
 obtain ⟨b,_,hb⟩:=Lib.mapM_at h i a hi
 exact ⟨b,hb⟩
theorem rows_of {base:Nat} {a:Addr} {len sz:Nat} {f:Nat→List Value} (hsz:0 < sz) (hlen:0 < len) (h:∀ i,i < len→W.cells? base (a.add (i * sz)) sz=some (f i)) :
  a.spot=none∧∃ cc e fz,W.heap[a.block]?=some (.cells ⟨cc⟩ e fz)∧a.off + len * sz≤cc.length∧∀ i,i < len→(cc.drop (a.off + i * sz)).take sz=f i:=by
 have h0:=World.cells?_some (h 0 hlen)
 have h1:=h0.2.2 0 hsz
 have e0:(a.add (0 * sz)).add 0=a:=by simp [Addr.add]
 rw [e0] at h1
 have h2:(f 0)[0]?=some (f 0)[0]:=List.getElem?_eq_getElem (by rw [h0.2.1]; exact hsz)
 rw [h2] at h1
 have hsp:a.spot=none∧∃ cc e fz,W.heap[a.block]?=some (.cells ⟨cc⟩ e fz):=by
  unfold World.cell? at h1
  split at h1
  ·rename_i c e fz hb
   cases hs:a.spot with
   | none=>exact ⟨rfl,c.toList,e,fz,hb⟩
   | some s=>rw [hs] at h1; simp at h1
  ·cases h1
 obtain ⟨hspot,cc,e,fz,hb⟩:=hsp
 have hat:∀ i,i < len→∀ j,j < sz→cc[a.off + i * sz + j]?=(f i)[j]?:=fun i hi j hj=>by
  have g1:=(World.cells?_some (h i hi)).2.2 j hj
  have e1:(a.add (i * sz)).add j=⟨a.block,a.off + i * sz + j,none⟩:=by
   rw [add_of_none hspot,add_of_none rfl]
  rw [e1,cell_lit hb] at g1
  simpa using g1
 have hfl:∀ i,i < len→(f i).length=sz:=fun i hi=>(World.cells?_some (h i hi)).2.1
 refine ⟨hspot,cc,e,fz,hb,?_,fun i hi=>?_⟩
 ·have g1:=hat (len - 1) (by omega) (sz - 1) (by omega)
  have g3:(f (len - 1))[sz - 1]?=some _:=List.getElem?_eq_getElem (by rw [hfl _ (by omega)]; omega)
  rw [g3] at g1
  have g2:=(List.getElem?_eq_some_iff.1 g1).1
  have e2:len * sz=(len - 1) * sz + sz:=by
   have:len=len - 1 + 1:=by omega
   rw [this,Nat.add_mul,Nat.one_mul]; simp
  omega
 ·apply List.ext_getElem?
  intro j
  by_cases hj:j < sz
  ·rw [List.getElem?_take_of_lt hj,List.getElem?_drop,hat i hi j hj]
  ·rw [List.getElem?_eq_none (by simp; omega),List.getElem?_eq_none (by rw [hfl i hi]; omega)]
theorem lay_ok {H:Type} {enc:TypeId × Value→H} {base:Nat} {sp:Nat→Bool} {held:Bool}:∀ (d:Nat) (t:TypeId),tyOk P d t=true→∀ (fuel:Nat) (cs:List Value) (x:DataW H) (ps:List MemPlace),DataW.trod enc P W base sp held fuel t cs=some (x,ps)→Lays P W t cs
 | 0,t,h,fuel,cs,x,ps,hr=>by cases h
 | d + 1,t,h,0,cs,x,ps,hr=>by simp [DataW.trod] at hr
 | d + 1,t,h,fuel + 1,cs,x,ps,hr=>by
  unfold tyOk at h
  split at h
  ·rename_i k hu
   simp only [DataW.trod,hu] at hr
   split at hr <;> simp_all
   rename_i k' n hx
   obtain ⟨⟨rfl,hw⟩,_⟩:=hr
   exact Lays.same (fun φ=>.cons (.int _ _) .nil) fun H n=>.int hu hw
  ·rename_i hu
   simp only [DataW.trod,hu] at hr
   split at hr <;> simp_all
   exact Lays.same (fun φ=>.cons (.bool _) .nil) fun H n=>.bool hu
  ·rename_i hu
   simp only [DataW.trod,hu] at hr
   split at hr <;> simp_all
   obtain ⟨hw,_⟩:=hr
   exact Lays.same (fun φ=>.cons (.string _) .nil) fun H n=>.string hu hw
  ·rename_i e hu
   simp only [Bool.and_eq_true,decide_eq_true_eq] at h
   obtain ⟨_,h1,h2⟩:=h
   rcases DataW.trod_slice hu hr with ⟨rfl,_⟩ | ⟨a,len,cap,elems,rest,n0,hn0,rfl,_,_,hc1,hc2,hel0,hel1,_⟩
   ·exact Lays.same (fun φ=>.cons .slNil .nil) fun H n=>.slNil hu
   ·obtain rfl:fuel=n0:=by omega
    have hc:True:=trivial
    ·have hm:True:=trivial
     by_cases h0:len=0
     ·subst h0
      intro φ H n hM hG
      obtain ⟨φ',g1,g2,g3⟩:=hM.gone hG
      exact ⟨φ',_,n + 1,[.slice (some ⟨n,0,some 1⟩) 0 0],g1,g2,Nat.le_succ _,fun b hb=>by rw [get_put,if_neg (by omega)],.cons (.sl (.inl g3) (Nat.le_refl _) (Nat.zero_le _) (fun h=>by cases h) (fun h=>by cases h)) .nil,.sl0 hu⟩
     ·have hel:∀ i,i < len→∃ ci,W.cells? base (a.add (i * P.cellsOf e)) (P.cellsOf e)=some ci∧∃ y,DataW.trod enc P W base sp held fuel e ci=some y:=fun i hi=>by
       have hy:=hel1 i hi
       rw [List.getElem?_eq_getElem (by omega)] at hy
       obtain ⟨ci,q1,q2⟩:=Option.bind_eq_some_iff.1 hy
       exact ⟨ci,q1,_,q2⟩
      let f:Nat→List Value:=fun i=>(W.cells? base (a.add (i * P.cellsOf e)) (P.cellsOf e)).getD []
      have hf:∀ i,i < len→W.cells? base (a.add (i * P.cellsOf e)) (P.cellsOf e)=some (f i):=fun i hi=>by
       obtain ⟨ci,q1,_⟩:=hel i hi
       show _=some ((W.cells? base (a.add (i * P.cellsOf e)) (P.cellsOf e)).getD [])
       rw [q1]; rfl
      obtain ⟨hspot,cc,ty,fz,hb,hbound,hrow⟩:=rows_of h2 (Nat.pos_of_ne_zero h0) hf
      intro φ H n hM hG
      obtain ⟨φ1,H1,n1,c,g1,g2,g3,g4,g5,g6,g7⟩:=lays_rows (e:=e) len a.off cc (fun i hi=>by
       rw [hrow i hi]
       obtain ⟨ci,q1,y,q2⟩:=hel i hi
       rw [hf i hi] at q1
       cases q1
       exact lay_ok d e h1 fuel _ y.1 y.2 q2) hbound φ H n hM hG
      obtain ⟨φ2,k1,k2,k3⟩:=g1.window (Nat.le_trans hG g3) hb (by rw [g5]; exact hbound) (by rw [g5]; exact g6)
      refine ⟨φ2,_,n1 + 1,[.slice (some ⟨n1,0,some 1⟩) len len],k1,Inj.le_trans g2 k2,Nat.le_succ_of_le g3,fun b hb=>by rw [get_put,if_neg (by omega)]; exact g4 b hb,.cons (.sl (.inr ⟨a.block,_,_,_,k3,rfl,by simp,hspot⟩) (Nat.le_refl _) hc1 (fun h=>by cases h) (fun h=>by cases h)) .nil,?_⟩
      exact .sl hu (Nat.lt_succ_self _) (by rw [get_put,if_pos rfl]) (Nat.pos_of_ne_zero h0) (Nat.le_trans hc1 hc2) g5 fun i hi=>(g7 i hi).mono (Nat.le_succ _) fun b hb=>by rw [get_put,if_neg (by omega)]
  ·rename_i fs hu
   simp only [DataW.trod,hu] at hr
   have h:tyFs (tyOk P d) P.cellsOf fs.toList 0=some (P.cellsOf t):=by simpa using h
   split at hr
   ·rename_i hl
    obtain ⟨xs,hm,_⟩:=Option.map_eq_some_iff.1 hr
    intro φ H n hM hG
    obtain ⟨_,φ1,H1,n1,c,g1,g2,g3,g4,g5,g6,g7⟩:=lays_fields fs.toList d 0 (P.cellsOf t) cs h (fun f hf=>by
     obtain ⟨y,hy⟩:=mapM_mem hm f hf
     exact lay_ok d f.type (tyFs_le _ _ _ h f hf) fuel _ y.1 y.2 hy) (by omega) φ H n hM hG
    rw [Nat.sub_zero] at g5 g6
    rw [List.drop_zero,← hl,List.take_length] at g6
    exact ⟨φ1,H1,n1,c,g1,g2,g3,g4,g6,.struct hu g5 fun f hf=>by have:=(g7 f hf).2; rwa [Nat.sub_zero] at this⟩
   ·cases hr
  ·rename_i k e hu
   simp only [Bool.and_eq_true,beq_iff_eq] at h
   obtain ⟨h1,h2⟩:=h
   simp only [DataW.trod,hu] at hr
   split at hr
   ·rename_i hl
    obtain ⟨xs,hm,_⟩:=Option.map_eq_some_iff.1 hr
    intro φ H n hM hG
    obtain ⟨φ1,H1,n1,c,g1,g2,g3,g4,g5,g6,g7⟩:=lays_rows (e:=e) (sz:=P.cellsOf e) k 0 cs (fun i hi=>by
     obtain ⟨y,hy⟩:=mapM_mem hm i (by simpa using hi)
     rw [Nat.zero_add]
     exact lay_ok d e h1 fuel _ y.1 y.2 hy) (by omega) φ H n hM hG
    rw [List.drop_zero,← h2,← hl,List.take_length] at g6
    exact ⟨φ1,H1,n1,c,g1,g2,g3,g4,g6,.array hu (g5.trans h2.symm) g7⟩
   ·cases hr
  ·cases h
end
end Go.Sh
namespace Go.Sh
open Go Go.ChangeShapes
noncomputable section
variable {P:Program} {φ:Inj} {W W':World}
def ArgT (P:Program) (H:T AObj) (n:Nat) (t:TypeId) (m:Value):Prop :=
 match P.underlying t with
 | some (.struct _) | some (.array _ _)=>∃ c,m=.agg ⟨c⟩∧WT P H n t c
 | _=>WT P H n t [m]
theorem ArgT.mono {H H':T AObj} {n n':Nat} (hn:n≤n') (hH:∀ b,b < n→H'.get b=H.get b) {t:TypeId} {m:Value} (h:ArgT P H n t m):ArgT P H' n' t m:=by
 unfold ArgT at h ⊢
 split at h
 ·obtain ⟨c,h1,h2⟩:=h; exact ⟨c,h1,h2.mono hn hH⟩
 ·obtain ⟨c,h1,h2⟩:=h; exact ⟨c,h1,h2.mono hn hH⟩
 ·exact h.mono hn hH
def ArgsT (P:Program) (H:T AObj) (n:Nat):List TypeId→List Value→Prop
 | [],[]=>True
 | t::ts,m::ms=>ArgT P H n t m∧ArgsT P H n ts ms
 | _,_=>False
theorem ArgsT.mono {H H':T AObj} {n n':Nat} (hn:n≤n') (hH:∀ b,b < n→H'.get b=H.get b):∀ {ts:List TypeId} {ms:List Value},ArgsT P H n ts ms→ArgsT P H' n' ts ms
 | [],[],_=>trivial
 | t::ts,m::ms,h=>⟨h.1.mono hn hH,ArgsT.mono hn hH h.2⟩
 | [],_::_,h=>h.elim
 | _::_,[],h=>h.elim
theorem cells_one {d:Nat} {t:TypeId} (ht:tyOk P d t=true) {base:Nat} {v:Value} (hv:Value.okWide P W .any base t v) :
  (∃ cs,v=.agg ⟨cs⟩∧((∃ fs,P.underlying t=some (.struct fs))∨∃ k e,P.underlying t=some (.array k e)))∨(v.cells.toList=[v]∧(∀ fs,P.underlying t ≠ some (.struct fs))∧∀ k e,P.underlying t ≠ some (.array k e)):=by
 cases d with
 | zero=>cases ht
 | succ d =>
  unfold tyOk at ht
  unfold Value.okWide at hv
  split at ht
  ·rename_i k hu
   rw [hu] at hv ⊢
   refine .inr ⟨?_,(by simp),(by simp)⟩
   cases v <;> first | rfl | (simp [Cell.okWide,Cell.ok,hu] at hv)
  ·rename_i hu
   rw [hu] at hv ⊢
   refine .inr ⟨?_,(by simp),(by simp)⟩
   cases v <;> first | rfl | (simp [Cell.okWide,Cell.ok,hu] at hv)
  ·rename_i hu
   rw [hu] at hv ⊢
   refine .inr ⟨?_,(by simp),(by simp)⟩
   cases v <;> first | rfl | (simp [Cell.okWide,Cell.ok,hu] at hv)
  ·rename_i e hu
   rw [hu] at hv ⊢
   refine .inr ⟨?_,(by simp),(by simp)⟩
   cases v <;> first | rfl | (simp [Cell.okWide,Cell.ok,hu] at hv)
  ·rename_i fs hu
   rw [hu] at hv ⊢
   obtain ⟨⟨cs⟩,h1,_⟩:=hv
   exact .inl ⟨cs,h1,.inl ⟨fs,rfl⟩⟩
  ·rename_i k e hu
   rw [hu] at hv ⊢
   obtain ⟨⟨cs⟩,h1,_⟩:=hv
   exact .inl ⟨cs,h1,.inr ⟨k,e,rfl⟩⟩
  ·cases ht
theorem lay_arg {H:Type} {enc:TypeId × Value→H} {sp:Nat→Bool} {held:Bool} {d base:Nat} {t:TypeId} {v:Value} {x:DataW H} {p:List MemPlace} (ht:tyOk P d t=true) (hv:Value.okWide P W .any base t v) (hr:DataW.Trod enc P W 0 sp held t v x p) (Hm:T AObj) (n:Nat) (hM:MR P φ ⟨Hm,n,n⟩ W) (hG:P.globals.size≤n) :
  ∃ φ' H' n' m,MR P φ' ⟨H',n',n'⟩ W∧φ.le φ'∧n≤n'∧(∀ b,b < n→H'.get b=Hm.get b)∧VR φ' m v∧ArgT P H' n' t m:=by
 obtain ⟨fuel,hr⟩:=hr
 obtain ⟨φ',H',n',mcs,g1,g2,g3,g4,g5,g6⟩:=lay_ok d t ht fuel _ x p hr φ Hm n hM hG
 rcases cells_one ht hv with ⟨cs,rfl,hu⟩ | ⟨hc,h1,h2⟩
 ·refine ⟨φ',H',n',.agg ⟨mcs⟩,g1,g2,g3,g4,.agg g5,?_⟩
  unfold ArgT
  rcases hu with ⟨fs,hu⟩ | ⟨k,e,hu⟩ <;> (rw [hu]; exact ⟨mcs,rfl,g6⟩)
 ·rw [hc] at g5
  cases g5 with
  | cons g5 g7 =>
   cases g7
   refine ⟨φ',H',n',_,g1,g2,g3,g4,g5,?_⟩
   unfold ArgT
   split
   ·rename_i fs hu; exact absurd hu (h1 fs)
   ·rename_i k e hu; exact absurd hu (h2 k e)
   ·exact g6
theorem lay_args {H:Type} {enc:TypeId × Value→H} {sp:Nat→Bool} {held:Bool} {d base:Nat}:∀ (ts:List TypeId) (vs:List Value) (xs:List (DataW H)) (p:List MemPlace),(∀ t ∈ ts,tyOk P d t=true)→(∀ (j:Nat) t v,ts[j]?=some t→vs[j]?=some v→Value.okWide P W .any base t v)→DataW.TrodAll enc P W 0 sp held ts vs xs p →
  ∀ (φ:Inj) (Hm:T AObj) (n:Nat),MR P φ ⟨Hm,n,n⟩ W→P.globals.size≤n→∃ φ' H' n' ms,MR P φ' ⟨H',n',n'⟩ W∧φ.le φ'∧n≤n'∧(∀ b,b < n→H'.get b=Hm.get b)∧LR φ' ms vs∧ArgsT P H' n' ts ms
 | [],[],[],p,_,_,_,φ,Hm,n,hM,hG=>⟨φ,Hm,n,[],hM,φ.le_refl,Nat.le_refl _,fun _ _=>rfl,.nil,trivial⟩
 | t::ts,v::vs,x::xs,p,ht,hv,hr,φ,Hm,n,hM,hG=>by
  obtain ⟨p1,p2,h1,h2,_⟩:=hr
  obtain ⟨φ1,H1,n1,m,g1,g2,g3,g4,g5,g6⟩:=lay_arg (ht t (List.mem_cons_self ..)) (hv 0 t v rfl rfl) h1 Hm n hM hG
  obtain ⟨φ2,H2,n2,ms,k1,k2,k3,k4,k5,k6⟩:=lay_args ts vs xs p2 (fun t h=>ht t (List.mem_cons_of_mem _ h)) (fun j t v h h'=>hv (j + 1) t v (by simpa using h) (by simpa using h')) h2 φ1 H1 n1 g1 (Nat.le_trans hG g3)
  exact ⟨φ2,H2,n2,m::ms,k1,Inj.le_trans g2 k2,Nat.le_trans g3 k3,fun b hb=>(k4 b (by omega)).trans (g4 b hb),.cons (g5.mono k2) k5,g6.mono k3 k4,k6⟩
 | [],_::_,_,_,_,_,h,_,_,_,_,_=>h.elim
 | [],[],_::_,_,_,_,h,_,_,_,_,_=>h.elim
 | _::_,[],_,_,_,_,h,_,_,_,_,_=>h.elim
 | _::_,_::_,[],_,_,_,h,_,_,_,_,_=>h.elim
def slicesWide (P:Program):Bool:=(List.range P.types.size).all fun t=>match P.underlying t with | some (.slice e)=>decide (0 < P.cellsOf e) | _=>true
theorem args_again {H:Type} {enc:TypeId × Value→H} (hk:Kids P (· < P.types.size)) (hw:slicesWide P=true) (hst:Stays W W') {sp:Nat→Bool}:∀ (ts:List TypeId) (vs:List Value) (xs:List (DataW H)) (p:List MemPlace),(∀ t ∈ ts,t < P.types.size)→DataW.TrodAll enc P W 0 (fun _=>true) true ts vs xs p →
  (∀ q ∈ p,q.block < W.heap.size)→(∀ q ∈ p,sp q.block=true)→DataW.TrodAll enc P W' 0 sp true ts vs xs p
 | [],[],[],p,_,h,_,_=>h
 | t::ts,v::vs,x::xs,p,ht,hr,hlt,hsp=>by
  obtain ⟨p1,p2,⟨fuel,h1⟩,h2,rfl⟩:=hr
  refine ⟨p1,p2,⟨fuel,?_⟩,args_again hk hw hst ts vs xs p2 (fun t h=>ht t (List.mem_cons_of_mem _ h)) h2 (fun q hq=>hlt q (List.mem_append_right _ hq)) (fun q hq=>hsp q (List.mem_append_right _ hq)),rfl⟩
  refine DataW.trod_stays hk (fun {t e} h hu=>?_) (fun h=>by cases h) (ht t (List.mem_cons_self ..)) h1 (fun q hq=>?_) (fun q hq=>hsp q (List.mem_append_left _ hq))
  ·have:=List.all_eq_true.1 hw t (by simpa using h)
   rw [hu] at this
   simpa using this
  ·have hb:=hlt q (List.mem_append_left _ hq)
   cases q with
   | cell b off =>
    show W'.cell? ⟨b,off,none⟩=W.cell? ⟨b,off,none⟩
    unfold World.cell?
    rw [hst.old b hb]
   | map b=>exact hst.old b hb
 | [],_::_,_,_,_,h,_,_=>h.elim
 | [],[],_::_,_,_,h,_,_=>h.elim
 | _::_,[],_,_,_,h,_,_=>h.elim
 | _::_,_::_,[],_,_,h,_,_=>h.elim
theorem trodAll_length {H:Type} {enc:TypeId × Value→H} {base:Nat} {sp:Nat→Bool} {held:Bool}:∀ (ts:List TypeId) (vs:List Value) (xs:List (DataW H)) (p:List MemPlace),DataW.TrodAll enc P W base sp held ts vs xs p→vs.length=ts.length∧xs.length=ts.length
 | [],[],[],p,_=>⟨rfl,rfl⟩
 | t::ts,v::vs,x::xs,p,h=>by
  obtain ⟨p1,p2,_,h2,_⟩:=h
  have:=trodAll_length ts vs xs p2 h2
  exact ⟨by simp [this.1],by simp [this.2]⟩
 | [],_::_,_,_,h=>h.elim
 | [],[],_::_,_,h=>h.elim
 | _::_,[],_,_,h=>h.elim
 | _::_,_::_,[],_,h=>h.elim
end
end Go.Sh
namespace Go.Sh
open Go
variable {P:Program} {H:T AObj} {n:Nat} {t:TypeId} {cs:List Value}
theorem WT.toInt {k:IntKind} (hu:P.underlying t=some (.int k)) (h:WT P H n t cs):∃ z,cs=[.int k z]∧(Lit.int k z).wf=true:=by
 cases h with
 | int h1 h2=>rw [hu] at h1; cases h1; exact ⟨_,rfl,h2⟩
 | bool h1=>rw [hu] at h1; cases h1
 | string h1=>rw [hu] at h1; cases h1
 | slNil h1=>rw [hu] at h1; cases h1
 | sl0 h1=>rw [hu] at h1; cases h1
 | sl h1=>rw [hu] at h1; cases h1
 | struct h1=>rw [hu] at h1; cases h1
 | array h1=>rw [hu] at h1; cases h1
theorem WT.toSlice {e:TypeId} (hu:P.underlying t=some (.slice e)) (h:WT P H n t cs):(∃ a,cs=[.slice a 0 0])∨∃ b k c ty ro,cs=[.slice (some ⟨b,0,some 1⟩) k k]∧b < n∧H.get b=some (.cells c ty ro)∧0 < k∧k≤maxLen∧c.length=k * P.cellsOf e∧∀ i,i < k→WT P H n e ((c.drop (i * P.cellsOf e)).take (P.cellsOf e)):=by
 cases h with
 | int h1 h2=>rw [hu] at h1; cases h1
 | bool h1=>rw [hu] at h1; cases h1
 | string h1 h2=>rw [hu] at h1; cases h1
 | slNil h1=>exact .inl ⟨_,rfl⟩
 | sl0 h1=>exact .inl ⟨_,rfl⟩
 | sl h1 hb hg hk hm hc he=>rw [hu] at h1; cases h1; exact .inr ⟨_,_,_,_,_,rfl,hb,hg,hk,hm,hc,he⟩
 | struct h1=>rw [hu] at h1; cases h1
 | array h1=>rw [hu] at h1; cases h1
theorem WT.toStruct {fs:Array Field} (hu:P.underlying t=some (.struct fs)) (h:WT P H n t cs):cs.length=P.cellsOf t∧∀ x ∈ fs.toList.map (fun f=>(f.type,f.offset)),WT P H n x.1 ((cs.drop x.2).take (P.cellsOf x.1)):=by
 cases h with
 | int h1 h2=>rw [hu] at h1; cases h1
 | bool h1=>rw [hu] at h1; cases h1
 | string h1 h2=>rw [hu] at h1; cases h1
 | slNil h1=>rw [hu] at h1; cases h1
 | sl0 h1=>rw [hu] at h1; cases h1
 | sl h1=>rw [hu] at h1; cases h1
 | struct h1 hl hf =>
  rw [hu] at h1; cases h1
  refine ⟨hl,fun x hx=>?_⟩
  obtain ⟨f,hf1,rfl⟩:=List.mem_map.1 hx
  exact hf f hf1
 | array h1=>rw [hu] at h1; cases h1
theorem WT.toArray {k:Nat} {e:TypeId} (hu:P.underlying t=some (.array k e)) (h:WT P H n t cs):cs.length=P.cellsOf t∧∀ i,i < k→WT P H n e ((cs.drop (i * P.cellsOf e)).take (P.cellsOf e)):=by
 cases h with
 | int h1 h2=>rw [hu] at h1; cases h1
 | bool h1=>rw [hu] at h1; cases h1
 | string h1 h2=>rw [hu] at h1; cases h1
 | slNil h1=>rw [hu] at h1; cases h1
 | sl0 h1=>rw [hu] at h1; cases h1
 | sl h1=>rw [hu] at h1; cases h1
 | struct h1=>rw [hu] at h1; cases h1
 | array h1 hl hf=>rw [hu] at h1; cases h1; exact ⟨hl,hf⟩
def fieldsOf (P:Program) (t:TypeId):Array Field:=match P.underlying t with | some (.struct fs)=>fs | _=>#[]
theorem chunks {α:Type} {f:α→List Value} {m:Nat} (hf:∀ a,(f a).length=m):∀ (k:Nat) (c:List Value),c.length=k * m→(∀ i,i < k→∃ a,(c.drop (i * m)).take m=f a)→∃ l:List α,l.length=k∧c=l.flatMap f
 | 0,c,hl,_=>⟨[],rfl,by
   have:c=[]:=List.eq_nil_of_length_eq_zero (by omega)
   rw [this]; rfl⟩
 | k + 1,c,hl,h=>by
  obtain ⟨a,ha⟩:=h 0 (Nat.succ_pos _)
  rw [Nat.zero_mul,List.drop_zero] at ha
  have hl':(c.drop m).length=k * m:=by rw [List.length_drop,hl,Nat.add_mul,Nat.one_mul]; omega
  obtain ⟨l,h1,h2⟩:=chunks hf k (c.drop m) hl' fun i hi=>by
   obtain ⟨b,hb⟩:=h (i + 1) (by omega)
   refine ⟨b,?_⟩
   rw [List.drop_drop]
   rw [Nat.add_mul,Nat.one_mul] at hb
   rwa [Nat.add_comm m (i * m)]
  refine ⟨a::l,by simp [h1],?_⟩
  rw [List.flatMap_cons,← ha,← h2,List.take_append_drop]
end Go.Sh
namespace Go.Sh
open Go
noncomputable section
variable {α:Type} {f:α→List Value} {m:Nat}
def RowsA (f:α→List Value) (H:T AObj) (n b off:Nat) (l:List α):Prop:=(∃ pre rest e ro,H.get b=some (.cells (pre++(l.flatMap f++rest)) e ro)∧pre.length=off)∧b < n
def RowsV (f:α→List Value) (w:AW) (v:Value) (l:List α):Prop:=(l=[]∧∃ a c,v=.slice a 0 c)∨∃ b off sq c,v=.slice (some ⟨b,off,sq⟩) l.length c∧RowsA f w.heap w.next b off l
theorem flat_length (hf:∀ a,(f a).length=m):∀ l:List α,(l.flatMap f).length=l.length * m
 | []=>by simp
 | a::l=>by rw [List.flatMap_cons,List.length_append,hf,flat_length hf l,List.length_cons,Nat.add_mul]; omega
theorem flat_at (hf:∀ a,(f a).length=m):∀ (l:List α) (i:Nat) (a:α) (rest:List Value),l[i]?=some a→((l.flatMap f++rest).drop (i * m)).take m=f a∧i * m + m≤(l.flatMap f++rest).length
 | [],i,a,rest,h=>by simp at h
 | x::l,0,a,rest,h=>by
  simp only [List.getElem?_cons_zero,Option.some.injEq] at h
  subst h
  rw [List.flatMap_cons,Nat.zero_mul,List.drop_zero,List.append_assoc]
  refine ⟨?_,?_⟩
  ·rw [List.take_append_of_le_length (by rw [hf]; omega),List.take_of_length_le (by rw [hf]; omega)]
  ·rw [List.length_append,hf]; omega
 | x::l,i + 1,a,rest,h=>by
  rw [List.getElem?_cons_succ] at h
  obtain ⟨h1,h2⟩:=flat_at hf l i a rest h
  rw [List.flatMap_cons,List.append_assoc]
  refine ⟨?_,?_⟩
  ·rw [show (i + 1) * m=(f x).length + i * m by rw [hf,Nat.add_mul]; omega,← List.drop_drop,List.drop_left,h1]
  ·rw [List.length_append,hf,Nat.add_mul]; omega
theorem flat_inj (hf:∀ a,(f a).length=m) (hi:∀ a b,f a=f b→a=b):∀ (l l':List α) (r r':List Value),l.length=l'.length→l.flatMap f++r=l'.flatMap f++r'→l=l'
 | [],[],_,_,_,_=>rfl
 | [],_::_,_,_,h,_=>by simp at h
 | _::_,[],_,_,h,_=>by simp at h
 | a::l,b::l',r,r',h,e=>by
  rw [List.flatMap_cons,List.flatMap_cons,List.append_assoc,List.append_assoc] at e
  obtain ⟨e1,e2⟩:=List.append_inj e (by rw [hf,hf])
  rw [hi a b e1,flat_inj hf hi l l' r r' (by simpa using h) e2]
theorem RowsV.uniq (hf:∀ a,(f a).length=m) (hi:∀ a b,f a=f b→a=b) {w:AW} {v:Value} {l l':List α} (h:RowsV f w v l) (k:RowsV f w v l'):l=l':=by
 rcases h with ⟨rfl,a,c,rfl⟩ | ⟨b,off,sq,c,rfl,⟨pre,rest,e,ro,h1,h2⟩,h3⟩
 ·rcases k with ⟨rfl,_,_,_⟩ | ⟨b,off,sq,c,e,_⟩
  ·rfl
  ·have:l'.length=0:=by injection e with _ e _; exact e.symm
   exact (List.eq_nil_of_length_eq_zero this).symm
 ·rcases k with ⟨rfl,a',c',e⟩ | ⟨b',off',sq',c',e,⟨pre',rest',e',ro',k1,k2⟩,k3⟩
  ·have:l.length=0:=by injection e
   exact List.eq_nil_of_length_eq_zero this
  ·injection e with ea el ec
   injection ea with ea
   injection ea with eb eo es
   subst eb eo
   rw [h1] at k1
   simp only [Option.some.injEq,AObj.cells.injEq] at k1
   obtain ⟨q1,q2⟩:=List.append_inj k1.1 (by rw [h2,k2])
   exact flat_inj hf hi l l' rest rest' el q2
theorem RowsV.len {w:AW} {v:Value} {l:List α} (h:RowsV f w v l):∃ a c,v=.slice a l.length c:=by
 rcases h with ⟨rfl,a,c,rfl⟩ | ⟨b,off,sq,c,rfl,_⟩
 ·exact ⟨a,c,rfl⟩
 ·exact ⟨_,c,rfl⟩
theorem RowsV.at_ {w:AW} {v:Value} {l:List α} (h:RowsV f w v l):∀ i,i < l.length→∃ b off sq c,v=.slice (some ⟨b,off,sq⟩) l.length c∧RowsA f w.heap w.next b off l:=by
 intro i hi
 rcases h with ⟨rfl,_⟩ | ⟨b,off,sq,c,rfl,hp⟩
 ·simp at hi
 ·exact ⟨b,off,sq,c,rfl,hp⟩
theorem RowsA.put {H:T AObj} {n b off:Nat} {l:List α} (h:RowsA f H n b off l) {k n':Nat} {o:Option AObj} (hk:n≤k) (hn:n≤n'):RowsA f (H.put k o) n' b off l:=by
 obtain ⟨⟨pre,rest,e,ro,h1,h2⟩,h3⟩:=h
 exact ⟨⟨pre,rest,e,ro,by rw [get_put,if_neg (by omega)]; exact h1,h2⟩,by omega⟩
def Old (n:Nat) (H H':T AObj):Prop:=∀ b,b < n→H'.get b=H.get b
theorem Old.refl (n:Nat) (H:T AObj):Old n H H:=fun _ _=>rfl
theorem Old.put {n:Nat} {H H':T AObj} (h:Old n H H') {k:Nat} {o:Option AObj} (hk:n≤k):Old n H (H'.put k o):=fun b hb=>by rw [get_put,if_neg (by omega)]; exact h b hb
theorem Old.trans {n n':Nat} {H H' H'':T AObj} (h:Old n H H') (k:Old n' H' H'') (hn:n≤n'):Old n H H'':=fun b hb=>by rw [k b (by omega),h b hb]
theorem RowsA.old {H H':T AObj} {n n' b off:Nat} {l:List α} (h:RowsA f H n b off l) (ho:Old n H H') (hn:n≤n'):RowsA f H' n' b off l:=by
 obtain ⟨⟨pre,rest,e,ro,h1,h2⟩,h3⟩:=h
 exact ⟨⟨pre,rest,e,ro,by rw [ho b h3]; exact h1,h2⟩,by omega⟩
theorem RowsV.old {w w':AW} {v:Value} {l:List α} (h:RowsV f w v l) (ho:Old w.next w.heap w'.heap) (hn:w.next≤w'.next):RowsV f w' v l:=by
 rcases h with h | ⟨b,off,sq,c,e,h⟩
 ·exact .inl h
 ·exact .inr ⟨b,off,sq,c,e,h.old ho hn⟩
theorem RowsA.rd {H:T AObj} {n b off:Nat} {l:List α} (hf:∀ a,(f a).length=m) (h:RowsA f H n b off l) {i:Nat} {a:α} (ha:l[i]?=some a):rdO (H.get b) (off + i * m) m=some (f a):=by
 obtain ⟨⟨pre,rest,e,ro,h1,h2⟩,h3⟩:=h
 obtain ⟨k1,k2⟩:=flat_at hf l i a rest ha
 rw [h1,rdO_cells,if_pos (by rw [List.length_append,h2]; omega),← h2,← List.drop_drop,List.drop_left,k1]
theorem RowsA.rd1 {H:T AObj} {n b off:Nat} {l:List α} (hf:∀ a,(f a).length=m) (h:RowsA f H n b off l) {i j:Nat} {a:α} {x:Value} (ha:l[i]?=some a) (hx:(f a)[j]?=some x):rd1O (H.get b) (off + i * m + j)=some x:=by
 obtain ⟨⟨pre,rest,e,ro,h1,h2⟩,h3⟩:=h
 obtain ⟨k1,k2⟩:=flat_at hf l i a rest ha
 have hj:j < m:=by
  have:=(List.getElem?_eq_some_iff.1 hx).1
  rwa [hf] at this
 rw [h1,rd1O_cells]
 rw [← k1,List.getElem?_take_of_lt hj,List.getElem?_drop] at hx
 rw [List.getElem?_append_right (by omega),show off + i * m + j - pre.length=i * m + j by omega]
 exact hx
def intC (z:Int):List Value:=[.int .i64 z]
@[simp] theorem intC_length (z:Int):(intC z).length=1:=by simp [intC]
theorem intC_inj (a b:Int) (h:intC a=intC b):a=b:=by simpa [intC] using h
theorem RowsA.int {H:T AObj} {n b off:Nat} {l:List Int} (h:RowsA intC H n b off l) {i:Nat} {z:Int} (hz:l[i]?=some z):rd1O (H.get b) (off + i)=some (.int .i64 z):=by
 have:=h.rd1 (m:=1) (j:=0) intC_length hz (x:=.int .i64 z) rfl
 simpa using this
theorem rows_of_WT {P:Program} {H:T AObj} {n:Nat} {t e:TypeId} {cs:List Value} (hu:P.underlying t=some (.slice e)) (hc:P.cellsOf e=m) (hf:∀ a,(f a).length=m) (hone:∀ cs,WT P H n e cs→∃ a,cs=f a) {lim:Nat} (h:WT P H n t cs) :
  ∃ v l,cs=[v]∧RowsV f ⟨H,n,lim⟩ v l:=by
 rcases WT.toSlice hu h with ⟨a,ha⟩ | ⟨b,k,c,ty,ro,ha,hb,hg,hk,_,hl,he⟩
 ·exact ⟨_,[],ha,.inl ⟨rfl,_,_,rfl⟩⟩
 ·rw [hc] at hl he
  obtain ⟨l,h1,h2⟩:=chunks hf k c hl fun i hi=>hone _ (he i hi)
  subst h1
  exact ⟨_,l,ha,.inr ⟨b,0,some 1,l.length,rfl,⟨[],[],ty,ro,by rw [List.nil_append,List.append_nil,hg,h2],rfl⟩,hb⟩⟩
section grow
variable {P:Program} {st e:TypeId} {sz:Nat}
theorem append_eq (h0:isList P st=true) (h1:elemA P st=some e) (h2:szOf P e=some sz) (h3:smallT P e=true) (w:AW) (base:Option Addr) (n cap:Nat) (x:Value):append1 P w [st,st] [.slice base n cap,x]=(match lenA x with
  | none=>.fail
  | some m=>match srcCells w sz x with
   | none=>.fail
   | some new=>bif (Nat.ble (n + m) 1000000 && Nat.beq (lenL new 0) (m * sz)) then appendB w e base n cap m sz new else .fail):=by
 show (bif isList P st then appendA P w st (.slice base n cap) x else bif isI64 P st then appendMake P w st (.slice base n cap) x else .fail)=_
 rw [h0,cond_true]
 unfold appendA
 simp only [h1,h2,h3,Bool.true_and]
 rfl
@[simp] theorem builtin_append {P:Program} (w:AW) (ts:Array TypeId) (ty:TypeId) (args:List Value):builtinA P w .append ts ty args=append1 P w ts.toList args:=rfl
theorem append_nil (h0:isList P st=true) (h1:elemA P st=some e) (h2:szOf P e=some sz) (h3:smallT P e=true) {w:AW} {n cap m:Nat} {new:List Value} {x:Value} (h4:lenA x=some m) (h5:srcCells w sz x=some new) (hl:new.length=m * sz) (hm:0 < m) (hnm:n + m≤100000) :
  append1 P w [st,st] [.slice none n cap,x]=.val (.slice (some ⟨w.next,0,none⟩) m m) ⟨w.heap.put w.next (some (.cells new e false)),w.next + 1,w.lim⟩:=by
 rw [append_eq h0 h1 h2 h3,h4,h5]
 have e1:Nat.ble (n + m) 1000000=true:=Nat.ble_eq_true_of_le (by omega)
 have e2:Nat.beq (lenL new 0) (m * sz)=true:=by rw [lenL0,hl]; exact Nat.beq_refl _
 have e3:Nat.beq m 0=false:=by rw [← Bool.not_eq_true]; intro h; have:=Nat.eq_of_beq_eq_true h; omega
 simp only [e1,e2,Bool.and_self,cond_true,appendB,e3,cond_false]
 simp [newR,AW.add,rowV]
theorem append_full (h0:isList P st=true) (h1:elemA P st=some e) (h2:szOf P e=some sz) (h3:smallT P e=true) {w:AW} {B n m:Nat} {c new:List Value} {x:Value} (h4:lenA x=some m) (h5:srcCells w sz x=some new) (hl:new.length=m * sz) (hs:singles new=true) (hm:0 < m) (hnm:n + m≤100000)
  (hB:w.heap.get B=some (.cells c e false)) (hc:c.length=n * sz) (hlim:w.lim≤B) :
  append1 P w [st,st] [.slice (some ⟨B,0,none⟩) n n,x]=.val (.slice (some ⟨w.next,0,none⟩) (n + m) (n + m)) ⟨(w.heap.put B none).put w.next (some (.cells (c++new) e false)),w.next + 1,w.lim⟩:=by
 rw [append_eq h0 h1 h2 h3,h4,h5]
 have e1:Nat.ble (n + m) 1000000=true:=Nat.ble_eq_true_of_le (by omega)
 have e2:Nat.beq (lenL new 0) (m * sz)=true:=by rw [lenL0,hl]; exact Nat.beq_refl _
 have e3:Nat.beq m 0=false:=by rw [← Bool.not_eq_true]; intro h; have:=Nat.eq_of_beq_eq_true h; omega
 have e4:Nat.ble (n + m) n=false:=by rw [← Bool.not_eq_true]; intro h; have:=Nat.le_of_ble_eq_true h; omega
 simp only [e1,e2,Bool.and_self,cond_true,appendB,e3,cond_false,e4,Option.isNone_none,isExact]
 unfold appendNew
 have e5:Nat.ble w.lim B=true:=Nat.ble_eq_true_of_le hlim
 have e6:Nat.beq (0 + n * sz) (lenL c 0)=true:=by rw [lenL0,hc,Nat.zero_add]; exact Nat.beq_refl _
 have e7:Nat.beq (Nat.mod 0 sz) 0=true:=by rw [show Nat.mod 0 sz=0 from Nat.zero_mod sz]; rfl
 simp only [hB,hs,e5,e6,e7,Nat.beq_refl,Bool.and_self,Bool.not_false,cond_true]
 cases w
 simp [newR,AW.set,AW.add,rowV,appL_eq,dropL_eq]
theorem src_row {w:AW} {B k:Nat} {cs:List Value} {e':TypeId} {ro:Bool} (h:w.heap.get B=some (.cells cs e' ro)) (hl:cs.length=k * sz) (hk:0 < k) (hz:0 < sz):srcCells w sz (.slice (some ⟨B,0,none⟩) k k)=some cs:=by
 show (bif Nat.beq (k * sz) 0 then some [] else rd w B 0 (k * sz))=_
 have hz':0 < k * sz:=Nat.mul_pos hk hz
 have:Nat.beq (k * sz) 0=false:=by rw [← Bool.not_eq_true]; intro h; have:=Nat.eq_of_beq_eq_true h; omega
 rw [this,cond_false,rd_eq,h,rdO_cells,if_pos (by omega),List.drop_zero,List.take_of_length_le (by omega)]
end grow
theorem flat_set {α:Type} {f:α→List Value} {m:Nat} (hf:∀ a,(f a).length=m):∀ (l:List α) (i:Nat) (a:α),i < l.length→(l.flatMap f).take (i * m)++(f a++(l.flatMap f).drop (i * m + m))=(l.set i a).flatMap f
 | [],i,a,h=>by simp at h
 | x::l,0,a,h=>by
  rw [List.set_cons_zero,List.flatMap_cons,List.flatMap_cons,Nat.zero_mul,List.take_zero,List.nil_append,Nat.zero_add,← hf x,List.drop_left]
 | x::l,i + 1,a,h=>by
  have ih:=flat_set hf l i a (by simpa using h)
  have e1:(i + 1) * m=(f x).length + i * m:=by rw [hf,Nat.add_mul]; omega
  rw [List.set_cons_succ,List.flatMap_cons,List.flatMap_cons,e1,List.take_length_add_append,Nat.add_assoc,← List.drop_drop,List.drop_left,List.append_assoc,ih]
theorem repl_flat {α:Type} {f:α→List Value} (a:α):∀ n:Nat,repl (f a) n=(List.replicate n a).flatMap f
 | 0=>rfl
 | n + 1=>by
  rw [List.replicate_succ,List.flatMap_cons,← repl_flat a n]
  show appL (f a) (repl (f a) n)=_
  rw [appL_eq]
theorem make_eq {P:Program} {st e:TypeId} {z:Value} (h1:elemA P st=some e) (h2:zeroA P e=some z) (h3:smallT P e=true) (n:Nat) (hn:n≤1000) (w:AW) :
  makeSliceA P w st (.int .i64 (n:Int)) (.int .i64 (n:Int))=.val (.slice (some ⟨w.next,0,none⟩) n n) ⟨w.heap.put w.next (some (.cells (repl (cellsOf z) n) e false)),w.next + 1,w.lim⟩:=by
 show makeSliceA P w st (.int .i64 (Int.ofNat n)) (.int .i64 (Int.ofNat n))=_
 unfold makeSliceA
 simp only [h1,natA]
 unfold makeSliceB
 have e1:Nat.ble n n=true:=Nat.ble_eq_true_of_le (Nat.le_refl _)
 have e2:Nat.ble n 1000000=true:=Nat.ble_eq_true_of_le (by omega)
 simp only [h2,h3,e1,e2,Bool.and_self,cond_true]
 rfl
@[simp] theorem op_callT {P:Program} {t:Tm} {w:AW} (ty:TypeId) (n:Nat) (args:Array Operand) (ts:Array TypeId):(opS P ty (.call ⟨.value (.tmp n),args,ts⟩)).val t w=callV P w (tget t n) ((evL args.toList).val t):=rfl
@[simp] theorem op_makeFunc {P:Program} {t:Tm} {w:AW} (ty:TypeId) (f:FuncId) (a b:Array Operand):(opS P ty (.makeFunc (.func f) a b)).val t w=.val (.func (.func f) ⟨(evL a.toList).val t⟩ ⟨(evL b.toList).val t⟩) w:=rfl
@[simp] theorem op_slice {P:Program} {t:Tm} {w:AW} (ty s:TypeId) (x:Operand) (lo hi mx:Option Operand):(opS P ty (.slice s x lo hi mx)).val t w=sliceA P w s ((evS x).val t) ((evO lo).val t) ((evO hi).val t) ((evO mx).val t):=rfl
theorem sameN_int (n:Nat) (k:IntKind) (a:Int):sameVal (n + 1) (.int k a) (.int k a)=true:=by
 show (sameK k k && intEq a a)=true
 have h2:intEq a a=true:=by cases a <;> simp [intEq]
 rw [sameK_refl,h2]; rfl
theorem sameN_slice (n:Nat) (a:Option Addr) (l c:Nat):sameVal (n + 1) (.slice a l c) (.slice a l c)=true:=by
 show ((a == a) && (Nat.beq l l && Nat.beq c c))=true
 simp
theorem sameVals_refl {f:Value→Value→Bool}:∀ l:List Value,(∀ v ∈ l,f v v=true)→sameVal.sameVals f l l=true
 | [],_=>rfl
 | v::l,h=>by
  show (f v v && sameVal.sameVals f l l)=true
  rw [h v (List.mem_cons_self ..),sameVals_refl l fun u hu=>h u (List.mem_cons_of_mem _ hu)]; rfl
theorem same_agg (l:List Value) (h:∀ v ∈ l,sameVal 4 v v=true):sameVal 5 (.agg ⟨l⟩) (.agg ⟨l⟩)=true:=sameVals_refl l h
theorem least2 {P:Program} (ts:Array TypeId) (ty:TypeId) (k:IntKind) (a b:Int) (w:AW):builtinA P w .min ts ty [.int k a,.int k b]=.val (.int k (min a b)) w:=by
 show vR w (leastB k a [.int k b])=_
 unfold leastB
 simp only [sameK_refl,intLt_eq,cond_true]
 by_cases h:b < a
 ·simp [h,leastB,vR]; omega
 ·simp [h,leastB,vR]; omega
theorem most2 {P:Program} (ts:Array TypeId) (ty:TypeId) (k:IntKind) (a b:Int) (w:AW):builtinA P w .max ts ty [.int k a,.int k b]=.val (.int k (max a b)) w:=by
 show vR w (mostB k a [.int k b])=_
 unfold mostB
 simp only [sameK_refl,intLt_eq,cond_true]
 by_cases h:a < b
 ·simp [h,mostB,vR]; omega
 ·simp [h,mostB,vR]; omega
attribute [simp] least2 most2
@[simp] theorem nk2 (n:Nat):(n=n + 1 + 1)=False:=by simp; try omega
@[simp] theorem kn2 (n:Nat):(n + 1 + 1=n)=False:=by simp; try omega
@[simp] theorem nk3 (n:Nat):(n=n + 1 + 1 + 1)=False:=by simp; try omega
@[simp] theorem kn3 (n:Nat):(n + 1 + 1 + 1=n)=False:=by simp; try omega
@[simp] theorem nk4 (n:Nat):(n=n + 1 + 1 + 1 + 1)=False:=by simp; try omega
@[simp] theorem kn4 (n:Nat):(n + 1 + 1 + 1 + 1=n)=False:=by simp; try omega
@[simp] theorem nk5 (n:Nat):(n=n + 1 + 1 + 1 + 1 + 1)=False:=by simp; try omega
@[simp] theorem kn5 (n:Nat):(n + 1 + 1 + 1 + 1 + 1=n)=False:=by simp; try omega
@[simp] theorem nk6 (n:Nat):(n=n + 1 + 1 + 1 + 1 + 1 + 1)=False:=by simp; try omega
@[simp] theorem kn6 (n:Nat):(n + 1 + 1 + 1 + 1 + 1 + 1=n)=False:=by simp; try omega
@[simp] theorem nk7 (n:Nat):(n=n + 1 + 1 + 1 + 1 + 1 + 1 + 1)=False:=by simp; try omega
@[simp] theorem kn7 (n:Nat):(n + 1 + 1 + 1 + 1 + 1 + 1 + 1=n)=False:=by simp; try omega
@[simp] theorem nk8 (n:Nat):(n=n + 1 + 1 + 1 + 1 + 1 + 1 + 1 + 1)=False:=by simp; try omega
@[simp] theorem kn8 (n:Nat):(n + 1 + 1 + 1 + 1 + 1 + 1 + 1 + 1=n)=False:=by simp; try omega
@[simp] theorem nk9 (n:Nat):(n=n + 1 + 1 + 1 + 1 + 1 + 1 + 1 + 1 + 1)=False:=by simp; try omega
@[simp] theorem kn9 (n:Nat):(n + 1 + 1 + 1 + 1 + 1 + 1 + 1 + 1 + 1=n)=False:=by simp; try omega
@[simp] theorem nk10 (n:Nat):(n=n + 1 + 1 + 1 + 1 + 1 + 1 + 1 + 1 + 1 + 1)=False:=by simp; try omega
@[simp] theorem kn10 (n:Nat):(n + 1 + 1 + 1 + 1 + 1 + 1 + 1 + 1 + 1 + 1=n)=False:=by simp; try omega
@[simp] theorem nk11 (n:Nat):(n=n + 1 + 1 + 1 + 1 + 1 + 1 + 1 + 1 + 1 + 1 + 1)=False:=by simp; try omega
@[simp] theorem kn11 (n:Nat):(n + 1 + 1 + 1 + 1 + 1 + 1 + 1 + 1 + 1 + 1 + 1=n)=False:=by simp; try omega
@[simp] theorem nk12 (n:Nat):(n=n + 1 + 1 + 1 + 1 + 1 + 1 + 1 + 1 + 1 + 1 + 1 + 1)=False:=by simp; try omega
@[simp] theorem kn12 (n:Nat):(n + 1 + 1 + 1 + 1 + 1 + 1 + 1 + 1 + 1 + 1 + 1 + 1=n)=False:=by simp; try omega
@[simp] theorem nk13 (n:Nat):(n=n + 1 + 1 + 1 + 1 + 1 + 1 + 1 + 1 + 1 + 1 + 1 + 1 + 1)=False:=by simp; try omega
@[simp] theorem kn13 (n:Nat):(n + 1 + 1 + 1 + 1 + 1 + 1 + 1 + 1 + 1 + 1 + 1 + 1 + 1=n)=False:=by simp; try omega
@[simp] theorem nk14 (n:Nat):(n=n + 1 + 1 + 1 + 1 + 1 + 1 + 1 + 1 + 1 + 1 + 1 + 1 + 1 + 1)=False:=by simp; try omega
@[simp] theorem kn14 (n:Nat):(n + 1 + 1 + 1 + 1 + 1 + 1 + 1 + 1 + 1 + 1 + 1 + 1 + 1 + 1=n)=False:=by simp; try omega
@[simp] theorem nk15 (n:Nat):(n=n + 1 + 1 + 1 + 1 + 1 + 1 + 1 + 1 + 1 + 1 + 1 + 1 + 1 + 1 + 1)=False:=by simp; try omega
@[simp] theorem kn15 (n:Nat):(n + 1 + 1 + 1 + 1 + 1 + 1 + 1 + 1 + 1 + 1 + 1 + 1 + 1 + 1 + 1=n)=False:=by simp; try omega
@[simp] theorem le_up {a n:Nat} (h:a≤n):a≤n + 1:=by omega
end
end Go.Sh
namespace Go.Sh
open Go Go.ChangeShapes
noncomputable section
variable {P:Program} {W:World}
theorem trodAll_at {H:Type} {enc:TypeId × Value→H} {sp:Nat→Bool} {held:Bool}:∀ (ts:List TypeId) (vs:List Value) (xs:List (DataW H)) (p:List MemPlace),DataW.TrodAll enc P W 0 sp held ts vs xs p→∀ (j:Nat) t v,ts[j]?=some t→vs[j]?=some v→∃ x p',xs[j]?=some x∧DataW.Trod enc P W 0 sp held t v x p'
 | [],[],[],_,_,j,t,v,h,_=>by simp at h
 | t::ts,v::vs,x::xs,p,h,0,t',v',h1,h2=>by
  obtain ⟨p1,p2,k1,_,_⟩:=h
  simp only [List.getElem?_cons_zero,Option.some.injEq] at h1 h2
  subst h1 h2
  exact ⟨x,p1,rfl,k1⟩
 | t::ts,v::vs,x::xs,p,h,j + 1,t',v',h1,h2=>by
  obtain ⟨p1,p2,_,k2,_⟩:=h
  simp only [List.getElem?_cons_succ] at h1 h2 ⊢
  exact trodAll_at ts vs xs p2 k2 j t' v' h1 h2
 | [],_::_,_,_,h,_,_,_,_,_=>h.elim
 | [],[],_::_,_,h,_,_,_,_,_=>h.elim
 | _::_,[],_,_,h,_,_,_,_,_=>h.elim
 | _::_,_::_,[],_,h,_,_,_,_,_=>h.elim
theorem LR_at {φ:Inj}:∀ {l l':List Value},LR φ l l'→∀ (j:Nat) v,l[j]?=some v→∃ v',l'[j]?=some v'∧VR φ v v'
 | [],[],_,j,v,h=>by simp at h
 | a::l,a'::l',h,0,v,hv=>by
  cases h with
  | cons h1 h2 =>
   simp only [List.getElem?_cons_zero,Option.some.injEq] at hv
   subst hv
   exact ⟨a',rfl,h1⟩
 | a::l,a'::l',h,j + 1,v,hv=>by
  cases h with
  | cons h1 h2=>exact LR_at h2 j v (by simpa using hv)
 | [],_::_,h,_,_,_=>by cases h
 | _::_,[],h,_,_,_=>by cases h
theorem input_sized {H:Type} {enc:TypeId × Value→H} {sp:Nat→Bool} {held:Bool} (hP:NoCount P) (hm:P.follows .mixedOrders=true) {ov:Ov} (hO:OvOk P ov) {l:List LaidV} (hl:LaidOk P W l) {d base:Nat} {ts:List TypeId} {vs:List Value} {xs:List (DataW H)} {p:List MemPlace}
  (ht:∀ t ∈ ts,tyOk P d t=true) (hv:∀ (j:Nat) t v,ts[j]?=some t→vs[j]?=some v→Value.okWide P W .any base t v) (hr:DataW.TrodAll enc P W 0 sp held ts vs xs p) {tw:List TypeId} {xw:List (DataW H)} (hlen:xs.length=ts.length) (hz:(DataW.weightsEach P (ts++tw) (xs++xw)).all (·≤reachBytes)=true) {f:FuncId} {m:Nat}
  (h:∀ (A:AW) (ms:List Value),A.lim=A.next→P.globals.size≤A.next→(∀ b,b < P.globals.size→A.heap.get b=(startH l).get b)→ArgsT P A.heap A.next ts ms→(∀ (j:Nat) t e a k c,ts[j]?=some t→P.underlying t=some (.slice e)→ms[j]?=some (.slice a k c)→k * P.bytesOf e≤reachBytes)→∃ A' x',(run P ov m).call f ms A .none=.ok (.ret (.bool true)) A' x') :
  Calls P f ⟨vs⟩ W fun e w'=>e=.returned (.bool true)∧Stays W w':=by
 have hM0:=start_MR hl
 obtain ⟨φ',H',n',ms,g1,g2,g3,g4,g5,g6⟩:=lay_args ts vs xs p ht hv hr _ _ _ hM0 (Nat.le_refl _)
 obtain ⟨A',x',hrun⟩:=h ⟨H',n',n'⟩ ms rfl g3 g4 g6 (by
  intro j t e a k c hj hu hmj
  obtain ⟨v,hvj,hvr⟩:=LR_at g5 j _ hmj
  obtain ⟨x,p',hxj,fuel,htr⟩:=trodAll_at ts vs xs p hr j t v hj hvj
  have hjl:j < ts.length:=(List.getElem?_eq_some_iff.1 hj).1
  have e1:(ts++tw)[j]?=some t:=by rw [List.getElem?_append_left hjl]; exact hj
  have e2:(xs++xw)[j]?=some x:=by rw [List.getElem?_append_left (by omega)]; exact hxj
  cases hvr with
  | slNil=>simp
  | sl0 _=>simp
  | sl _ _ _ _ =>
   rcases DataW.trod_slice hu htr with ⟨h1,_⟩ | ⟨a',len,cap,elems,rest,n0,_,h1,h2,_,_,_,h3,_⟩
   ·exact absurd h1 (by simp [Value.cells])
   ·have h4:len=k:=by
     simp [Value.cells] at h1
     exact h1.2.1.symm
    have hx:x=.slice (elems.map (·.1)) (rest.map (·.1)):=congrArg Prod.fst h2
    rw [hx] at e2
    have:=sized_slice hz e1 e2 hu
    rw [List.length_map,h3,h4] at this
    exact Nat.le_trans (Nat.mul_le_mul_right _ (Nat.le_add_right _ _)) this)
 refine (calls_of hP hm hO g1 g5 hrun).mono fun e w' ⟨φ2,v',h1,h2,h3,h4⟩=>?_
 have hv:v'=.bool true:=VR_bool h2
 exact ⟨hv ▸ h1,h4.os,h4.output,h4.size,fun c hc=>h4.keeps (Nat.le_refl _) (fun b hb=>g1.fresh b hb) hc⟩
end
end Go.Sh
namespace Go.Sh
open Go
noncomputable section
variable {P:Program}
inductive MY where
 | mc (m:MC)
 | seq (a b:MY)
 | cond (c:Operand) (a b:MY)
 | block (id:Nat) (b:MY)
 | loop (b:MY)
 | opy (l:List MOp)
 | rf (n:Nat) (f:Operand) (ps:List Tmp) (a b:Code)
def yldX (k:Tm→AW→RX) (d:Option Tmp) (t:Tm) (y:YR):RX :=
 match y with
 | .val b w=>k (putM d (.bool b) t) w
 | _=>.fail
def exNY (r:Rec) (k:Tm→AW→RX) (d:Option Tmp) (t:Tm) (y:R):RX :=
 match y with
 | .val v w=>k (putM d v t) w
 | .enter f args w=>retX k d t (r.call f args w .none)
 | .yield l args w=>yldX k d t (yieldA r l args w)
 | _=>.fail
def exGY (r:Rec) (k:Tm→AW→RX) (d:Option Tmp) (t:Tm) (w:AW) (y:Tm→AW→R) (g:Option Bool):RX :=
 match g with
 | some true=>exNY r k d t (y t w)
 | some false=>k (putM d undef t) w
 | none=>.fail
def exOpsY (P:Program) (r:Rec):List MOp→Tm→AW→RX
 | [],t,w=>.ok .normal t w
 | o::l,t,w=>exGY r (exOpsY P r l) o.d t w (opS P o.ty o.op).val (guardX o.g t)
def rfX (y:RC):RX :=
 match y with
 | .ok ex t _ w _=>match ex with
  | .panic _=>.fail
  | ex=>.ok ex t w
 | .fail=>.fail
def exY (P:Program) (r:Rec):MY→Tm→AW→RX
 | .mc m,t,w=>exM P r m t w
 | .seq a b,t,w=>seqX (exY P r b) (exY P r a t w)
 | .cond c a b,t,w=>condX (exY P r a) (exY P r b) t w ((evS c).val t)
 | .block id b,t,w=>blockX id (exY P r b t w)
 | .loop b,t,w=>loopX (exY P r b) 4611686018427387904 t w
 | .opy l,t,w=>exOpsY P r l t w
 | .rf n f ps a b,t,w=>rfX (rangeB P n r ((evS f).val t) ps a b t [] w .none)
def RefY (rb:Bool) (x:RX) (y:List Deferred→Ctx→RC):Prop:=∀ ex t w,x=.ok ex t w→∀ ds c,isRound c=rb→y ds c=.ok ex t ds w c
theorem RefY.seq {rb:Bool} {k:Tm→AW→RX} {x:RX} {k':CodeF} {y:List Deferred→Ctx→RC} (h:RefY rb x y) (hk:∀ t w,RefY rb (k t w) fun ds c=>k' t ds w c):RefY rb (seqX k x) fun ds c=>seqK k' (y ds c):=by
 intro ex t w e ds c hc
 cases x with
 | fail=>cases e
 | ok ex1 t1 w1 =>
  have h1:=h ex1 t1 w1 rfl ds c hc
  simp only
  rw [h1]
  cases ex1 with
  | normal=>exact hk t1 w1 ex t w e ds c hc
  | exit i=>cases e; rfl
  | ret=>cases e; rfl
  | panic v=>cases e; rfl
theorem RefY.loop {rb:Bool} {b:Tm→AW→RX} {b':CodeF} (h:∀ t w,RefY rb (b t w) fun ds c=>b' t ds w c):∀ n t w,RefY rb (loopX b n t w) fun ds c=>loopN b' n t ds w c
 | 0,t,w=>fun _ _ _ e=>by cases e
 | n + 1,t,w=>RefY.seq (h t w) (RefY.loop h n)
section rules
variable {r:Rec} {t:Tm} {w:AW}
@[simp] theorem exY_mc (m:MC):exY P r (.mc m) t w=exM P r m t w:=rfl
@[simp] theorem exY_seq (a b:MY):exY P r (.seq a b) t w=seqX (exY P r b) (exY P r a t w):=rfl
@[simp] theorem exY_cond (c:Operand) (a b:MY):exY P r (.cond c a b) t w=condX (exY P r a) (exY P r b) t w ((evS c).val t):=rfl
@[simp] theorem exY_block (i:Nat) (b:MY):exY P r (.block i b) t w=blockX i (exY P r b t w):=rfl
@[simp] theorem exY_opy (l:List MOp):exY P r (.opy l) t w=exOpsY P r l t w:=rfl
@[simp] theorem opsY_nil:exOpsY P r [] t w=.ok .normal t w:=rfl
@[simp] theorem opsY_cons (q:Bool) (g:Option (Tmp × Bool)) (d:Option Tmp) (ty:TypeId) (op:Op) (l:List MOp):exOpsY P r (⟨q,g,d,ty,op⟩::l) t w=exGY r (exOpsY P r l) d t w (opS P ty op).val (guardX g t):=rfl
@[simp] theorem exGY_true (k:Tm→AW→RX) (d:Option Tmp) (y:Tm→AW→R):exGY r k d t w y (some true)=exNY r k d t (y t w):=rfl
@[simp] theorem exGY_false (k:Tm→AW→RX) (d:Option Tmp) (y:Tm→AW→R):exGY r k d t w y (some false)=k (putM d undef t) w:=rfl
@[simp] theorem exNY_val (k:Tm→AW→RX) (d:Option Tmp) (v:Value):exNY r k d t (.val v w)=k (putM d v t) w:=rfl
@[simp] theorem exNY_enter (k:Tm→AW→RX) (d:Option Tmp) (f:FuncId) (args:List Value):exNY r k d t (.enter f args w)=retX k d t (r.call f args w .none):=rfl
@[simp] theorem exNY_yield (k:Tm→AW→RX) (d:Option Tmp) (l:Nat) (args:List Value):exNY r k d t (.yield l args w)=yldX k d t (yieldA r l args w):=rfl
@[simp] theorem yldX_val (k:Tm→AW→RX) (d:Option Tmp) (b:Bool):yldX k d t (.val b w)=k (putM d (.bool b) t) w:=rfl
@[simp] theorem callV_yield (l:Nat) (args:List Value):callV P w (.func (.yield l) ⟨[]⟩ ⟨[]⟩) args=.yield l args w:=rfl
end rules
end
end Go.Sh
namespace Go.Sh
open Go
variable {α:Type}
def AccR (f:α→List Value) (e:TypeId) (n0:Nat) (w:AW) (v:Value) (acc:List α):Prop:=(acc=[]∧v=.slice none 0 0)∨∃ B,v=.slice (some ⟨B,0,none⟩) acc.length acc.length∧w.heap.get B=some (.cells (acc.flatMap f) e false)∧n0 < B∧B < w.next∧acc ≠ []
theorem AccR.nil {f:α→List Value} {e:TypeId} {n0:Nat} {w:AW}:AccR f e n0 w (.slice none 0 0) ([]:List α):=.inl ⟨rfl,rfl⟩
theorem AccR.keep {f:α→List Value} {e:TypeId} {n0:Nat} {w w':AW} {v:Value} {acc:List α} (h:AccR f e n0 w v acc) (k:∀ x,n0 < x→x < w.next→w'.heap.get x=w.heap.get x) (hn:w.next≤w'.next):AccR f e n0 w' v acc:=by
 rcases h with h | ⟨B,h1,h2,h3,h4,h5⟩
 ·exact .inl h
 ·exact .inr ⟨B,h1,by rw [k B h3 h4,h2],h3,by omega,h5⟩
theorem AccR.rows {f:α→List Value} {e:TypeId} {n0:Nat} {w:AW} {v:Value} {acc:List α} (h:AccR f e n0 w v acc):RowsV f w v acc:=by
 rcases h with ⟨rfl,rfl⟩ | ⟨B,rfl,h2,h3,h4,_⟩
 ·exact .inl ⟨rfl,_,_,rfl⟩
 ·exact .inr ⟨B,0,none,_,rfl,⟨[],[],e,false,by simpa using h2,rfl⟩,h4⟩
theorem AccR.ok {f:α→List Value} {e:TypeId} {n0:Nat} {w:AW} {v:Value} {acc:List α} (h:AccR f e n0 w v acc):notJunk v=some v:=by
 rcases h with ⟨_,rfl⟩ | ⟨_,rfl,_⟩ <;> rfl
theorem AccR.push {P:Program} {st e:TypeId} {sz:Nat} {f:α→List Value} (h0:isList P st=true) (h1:elemA P st=some e) (h2:szOf P e=some sz) (h3:smallT P e=true) (hf:∀ a,(f a).length=sz) (hs:∀ a,singles (f a)=true) (hz:0 < sz)
  {n0:Nat} {w:AW} {v:Value} {acc:List α} (h:AccR f e n0 w v acc) (hl:w.lim≤n0) (hn:n0 < w.next) (hlen:acc.length≤90000) (y:α) :
  ∃ v' w',append1 P ⟨w.heap.put w.next (some (.cells (f y) e false)),w.next + 1,w.lim⟩ [st,st] [v,.slice (some ⟨w.next,0,none⟩) 1 1]=.val v' w'∧AccR f e n0 w' v' (acc++[y])∧(∀ x,x≤n0→w'.heap.get x=w.heap.get x)∧w.next≤w'.next∧w'.lim=w.lim:=by
 have hsrc:srcCells ⟨w.heap.put w.next (some (.cells (f y) e false)),w.next + 1,w.lim⟩ sz (.slice (some ⟨w.next,0,none⟩) 1 1)=some (f y):=src_row (e':=e) (ro:=false) (k:=1) (by simp) (by simp [hf]) (by decide) hz
 rcases h with ⟨rfl,rfl⟩ | ⟨B,rfl,hB,k1,k2,_⟩
 ·refine ⟨_,_,append_nil h0 h1 h2 h3 (m:=1) rfl hsrc (by simp [hf]) (by decide) (by decide),.inr ⟨_,rfl,?_,?_,?_,by simp⟩,fun x hx=>?_,?_,rfl⟩
  ·simp
  ·show n0 < w.next + 1; omega
  ·exact Nat.lt_succ_self _
  ·show ((w.heap.put w.next _).put (w.next + 1) _).get x=_
   rw [get_put,if_neg (by omega),get_put,if_neg (by omega)]
  ·show w.next≤w.next + 1 + 1; omega
 ·have hB':(w.heap.put w.next (some (.cells (f y) e false))).get B=some (.cells (acc.flatMap f) e false):=by rw [get_put,if_neg (by omega)]; exact hB
  refine ⟨_,_,append_full h0 h1 h2 h3 (n:=acc.length) (m:=1) (c:=acc.flatMap f) rfl hsrc (by simp [hf]) (hs y) (by decide) (by omega) hB' (flat_length hf acc) (by show w.lim≤B; omega),.inr ⟨w.next + 1,?_,?_,?_,?_,by simp⟩,fun x hx=>?_,?_,rfl⟩
  ·simp
  ·show (((w.heap.put w.next _).put B none).put (w.next + 1) _).get (w.next + 1)=_
   rw [get_put,if_pos rfl]; simp
  ·omega
  ·exact Nat.lt_succ_self _
  ·show (((w.heap.put w.next _).put B none).put (w.next + 1) _).get x=_
   rw [get_put,if_neg (by omega),get_put,if_neg (by omega),get_put,if_neg (by omega)]
  ·show w.next≤w.next + 1 + 1; omega
end Go.Sh
namespace Go.Sh
open Go
variable {α:Type}
def AccQ (f:α→List Value) (e:TypeId) (n0:Nat) (w:AW) (v:Value) (acc:List α) (B:Nat):Prop:=(acc=[]∧v=.slice none 0 0)∨(v=.slice (some ⟨B,0,none⟩) acc.length acc.length∧w.heap.get B=some (.cells (acc.flatMap f) e false)∧n0 < B∧B < w.next∧acc ≠ [])
theorem AccQ.nil {f:α→List Value} {e:TypeId} {n0:Nat} {w:AW} {B:Nat}:AccQ f e n0 w (.slice none 0 0) ([]:List α) B:=.inl ⟨rfl,rfl⟩
theorem AccQ.keep {f:α→List Value} {e:TypeId} {n0:Nat} {w w':AW} {v:Value} {acc:List α} {B:Nat} (h:AccQ f e n0 w v acc B) (k:acc ≠ []→n0 < B→B < w.next→w'.heap.get B=w.heap.get B) (hn:w.next≤w'.next):AccQ f e n0 w' v acc B:=by
 rcases h with h | ⟨h1,h2,h3,h4,h5⟩
 ·exact .inl h
 ·exact .inr ⟨h1,by rw [k h5 h3 h4,h2],h3,by omega,h5⟩
theorem AccQ.lt {f:α→List Value} {e:TypeId} {n0:Nat} {w:AW} {v:Value} {acc:List α} {B:Nat} (h:AccQ f e n0 w v acc B) (hne:acc ≠ []):n0 < B∧B < w.next:=by
 rcases h with ⟨h,_⟩ | ⟨_,_,h3,h4,_⟩
 ·exact absurd h hne
 ·exact ⟨h3,h4⟩
theorem AccQ.rows {f:α→List Value} {e:TypeId} {n0:Nat} {w:AW} {v:Value} {acc:List α} {B:Nat} (h:AccQ f e n0 w v acc B):RowsV f w v acc:=by
 rcases h with ⟨rfl,rfl⟩ | ⟨rfl,h2,h3,h4,_⟩
 ·exact .inl ⟨rfl,_,_,rfl⟩
 ·exact .inr ⟨B,0,none,_,rfl,⟨[],[],e,false,by simpa using h2,rfl⟩,h4⟩
theorem AccQ.ok {f:α→List Value} {e:TypeId} {n0:Nat} {w:AW} {v:Value} {acc:List α} {B:Nat} (h:AccQ f e n0 w v acc B):notJunk v=some v:=by
 rcases h with ⟨_,rfl⟩ | ⟨rfl,_⟩ <;> rfl
theorem AccQ.push {P:Program} {st e:TypeId} {sz:Nat} {f:α→List Value} (h0:isList P st=true) (h1:elemA P st=some e) (h2:szOf P e=some sz) (h3:smallT P e=true) (hf:∀ a,(f a).length=sz) (hs:∀ a,singles (f a)=true) (hz:0 < sz)
  {n0:Nat} {w:AW} {v:Value} {acc:List α} {B:Nat} (h:AccQ f e n0 w v acc B) (hl:w.lim≤n0) (hn:n0 < w.next) (hlen:acc.length≤90000) (y:α) :
  ∃ v' w',append1 P ⟨w.heap.put w.next (some (.cells (f y) e false)),w.next + 1,w.lim⟩ [st,st] [v,.slice (some ⟨w.next,0,none⟩) 1 1]=.val v' w'∧(∃ B',w.next≤B'∧AccQ f e n0 w' v' (acc++[y]) B')∧(∀ x,x < w.next→(acc ≠ []→x ≠ B)→w'.heap.get x=w.heap.get x)∧w.next≤w'.next∧w'.lim=w.lim:=by
 have hsrc:srcCells ⟨w.heap.put w.next (some (.cells (f y) e false)),w.next + 1,w.lim⟩ sz (.slice (some ⟨w.next,0,none⟩) 1 1)=some (f y):=src_row (e':=e) (ro:=false) (k:=1) (by simp) (by simp [hf]) (by decide) hz
 rcases h with ⟨rfl,rfl⟩ | ⟨rfl,hB,k1,k2,k3⟩
 ·refine ⟨_,_,append_nil h0 h1 h2 h3 (m:=1) rfl hsrc (by simp [hf]) (by decide) (by decide),⟨w.next + 1,Nat.le_succ _,.inr ⟨rfl,?_,?_,?_,by simp⟩⟩,fun x hx _=>?_,?_,rfl⟩
  ·simp
  ·show n0 < w.next + 1; omega
  ·exact Nat.lt_succ_self _
  ·show ((w.heap.put w.next _).put (w.next + 1) _).get x=_
   rw [get_put,if_neg (by omega),get_put,if_neg (by omega)]
  ·show w.next≤w.next + 1 + 1; omega
 ·have hB':(w.heap.put w.next (some (.cells (f y) e false))).get B=some (.cells (acc.flatMap f) e false):=by rw [get_put,if_neg (by omega)]; exact hB
  refine ⟨_,_,append_full h0 h1 h2 h3 (n:=acc.length) (m:=1) (c:=acc.flatMap f) rfl hsrc (by simp [hf]) (hs y) (by decide) (by omega) hB' (flat_length hf acc) (by show w.lim≤B; omega),⟨w.next + 1,Nat.le_succ _,.inr ⟨?_,?_,?_,?_,by simp⟩⟩,fun x hx hne=>?_,?_,rfl⟩
  ·simp
  ·show (((w.heap.put w.next _).put B none).put (w.next + 1) _).get (w.next + 1)=_
   rw [get_put,if_pos rfl]; simp
  ·show n0 < w.next + 1; omega
  ·exact Nat.lt_succ_self _
  ·have:=hne k3
   show (((w.heap.put w.next _).put B none).put (w.next + 1) _).get x=_
   rw [get_put,if_neg (by omega),get_put,if_neg (by omega),get_put,if_neg (by omega)]
  ·show w.next≤w.next + 1 + 1; omega
end Go.Sh
namespace Go.Sh
open Go
section entries
variable {α β:Type} {kC:α→Value} {vC:β→Value}
def entsK (kC:α→Value) (vC:β→Value):Nat→List (α × β)→List MapEntry
 | _,[]=>[]
 | i,p::l=>⟨kC p.1,vC p.2,i⟩::entsK kC vC (i + 1) l
theorem entsK_app (L M:List (α × β)):∀ i,entsK kC vC i (L++M)=entsK kC vC i L++entsK kC vC (i + L.length) M:=by
 induction L with
 | nil=>intro i; rfl
 | cons p L ih =>
  intro i
  show _::entsK kC vC (i + 1) (L++M)=_
  rw [ih (i + 1)]
  simp only [entsK,List.cons_append,List.length_cons]
  congr 3
  omega
theorem findBorn_k:∀ (L:List (α × β)) (i n j:Nat),n < L.length→findBorn (i + n) (entsK kC vC i L) j=some (j + n)
 | [],i,n,j,h=>by simp at h
 | p::L,i,n,j,h=>by
  show Bool.rec (motive:=fun _=>Option Nat) (findBorn (i + n) (entsK kC vC (i + 1) L) (Nat.succ j)) (some j) (Nat.beq i (i + n))=_
  cases n with
  | zero =>
   have:Nat.beq i (i + 0)=true:=Nat.beq_refl _
   rw [this]; rfl
  | succ n =>
   have:Nat.beq i (i + (n + 1))=false:=by
    rw [← Bool.not_eq_true]; intro hb; have:=Nat.eq_of_beq_eq_true hb; omega
   rw [this]
   show findBorn (i + (n + 1)) (entsK kC vC (i + 1) L) (Nat.succ j)=_
   rw [show i + (n + 1)=i + 1 + n by omega,findBorn_k L (i + 1) n (Nat.succ j) (by simpa using h)]
   congr 1; omega
end entries
section keyed
variable {P:Program} {α β:Type} [DecidableEq α]
def posK:List (α × β)→α→Option (Nat × β)
 | [],_=>none
 | p::l,k=>if k=p.1 then some (0,p.2) else (posK l k).map fun q=>(q.1 + 1,q.2)
def lookK (L:List (α × β)) (k:α):Option β:=(posK L k).map (·.2)
def updK:List (α × β)→α→β→List (α × β)
 | [],k,v=>[(k,v)]
 | p::l,k,v=>if k=p.1 then (p.1,v)::l else p::updK l k v
@[simp] theorem lookK_nil (k:α):lookK ([]:List (α × β)) k=none:=rfl
theorem lookK_cons (p:α × β) (L:List (α × β)) (k:α):lookK (p::L) k=if k=p.1 then some p.2 else lookK L k:=by
 unfold lookK
 rw [posK]
 split
 ·rfl
 ·rw [Option.map_map]; rfl
theorem lookK_upd (k:α) (v:β) (k':α):∀ L:List (α × β),lookK (updK L k v) k'=if k'=k then some v else lookK L k'
 | []=>by rw [updK,lookK_cons]
 | p::L=>by
  unfold updK
  by_cases h:k=p.1
  ·rw [if_pos h,lookK_cons,lookK_cons]
   by_cases h2:k'=p.1
   ·rw [if_pos h2,if_pos (by rw [h2,h])]
   ·rw [if_neg h2,if_neg h2,if_neg (by rw [h]; exact h2)]
  ·rw [if_neg h,lookK_cons,lookK_cons,lookK_upd k v k' L]
   by_cases h2:k'=p.1
   ·rw [if_pos h2,if_pos h2,if_neg (by rw [h2]; exact fun e=>h e.symm)]
   ·rw [if_neg h2,if_neg h2]
def KeyOk (kt:KeyT) (kC:α→Value):Prop:=(∀ a,keyFits kt (kC a)=true)∧∀ a b,eqFlat kt.1 kt.2 (kC a) (kC b)=some (decide (a=b))
variable {kt:KeyT} {kC:α→Value} {vC:β→Value}
theorem find_k (h:KeyOk kt kC) (k:α):∀ (L:List (α × β)) (i j:Nat),findA kt (kC k) (entsK kC vC i L) j=some ((posK L k).map fun q=>(q.1 + j,vC q.2))
 | [],i,j=>rfl
 | p::L,i,j=>by
  show (match eqFlat kt.1 kt.2 (kC k) (kC p.1) with | some b=>bif b then some (some (j,vC p.2)) else findA kt (kC k) (entsK kC vC (i + 1) L) (Nat.succ j) | none=>none)=_
  rw [h.2]
  unfold posK
  by_cases e:k=p.1
  ·simp [e]
  ·simp only [e,decide_false,cond_false,if_false]
   rw [find_k h k L (i + 1) (Nat.succ j),Option.map_map]
   congr 1
   cases posK L k with
   | none=>rfl
   | some q=>simp; omega
theorem pos_none {L:List (α × β)} {k:α} (h:posK L k=none) (v:β):updK L k v=L++[(k,v)]:=by
 induction L with
 | nil=>rfl
 | cons p L ih =>
  unfold posK at h
  unfold updK
  by_cases e:k=p.1
  ·rw [if_pos e] at h; cases h
  ·rw [if_neg e] at h ⊢
   rw [ih (by simpa using h)]; rfl
def modS:List MapEntry→Nat→Value→List MapEntry
 | [],_,_=>[]
 | e::es,i,v=>match i with | 0=>⟨e.key,v,e.born⟩::es | i + 1=>e::modS es i v
theorem modVal_eq:∀ (es:List MapEntry) (i:Nat) (v:Value),modVal es i v=modS es i v
 | [],_,_=>rfl
 | e::es,0,v=>rfl
 | e::es,i + 1,v=>by
  show e::modVal es i v=e::modS es i v
  rw [modVal_eq es i v]
theorem mod_k (v:β) {k:α}:∀ (L:List (α × β)) (i:Nat) (n:Nat) (u:β),posK L k=some (n,u)→modVal (entsK kC vC i L) n (vC v)=entsK kC vC i (updK L k v)
 | [],i,n,u,h=>by cases h
 | p::L,i,n,u,h=>by
  rw [modVal_eq]
  unfold posK at h
  unfold updK
  by_cases e:k=p.1
  ·rw [if_pos e] at h ⊢
   cases h
   rfl
  ·rw [if_neg e] at h ⊢
   cases hp:posK L k with
   | none=>rw [hp] at h; cases h
   | some q =>
    rw [hp] at h
    cases h
    have:=mod_k v L (i + 1) q.1 q.2 hp
    rw [modVal_eq] at this
    show _::modS (entsK kC vC (i + 1) L) q.1 (vC v)=_::entsK kC vC (i + 1) (updK L k v)
    rw [this]
theorem updK_len {L:List (α × β)} {k:α} (v:β):(updK L k v).length=if (posK L k).isSome then L.length else L.length + 1:=by
 induction L with
 | nil=>rfl
 | cons p L ih =>
  unfold updK posK
  by_cases e:k=p.1
  ·simp [e]
  ·simp only [e,if_false,List.length_cons,ih,Option.isSome_map]
   split <;> rfl
theorem born_k {k:α}:∀ (L:List (α × β)) (i n:Nat) (u:β),posK L k=some (n,u)→bornAt (entsK kC vC i L) n=some (i + n)
 | [],i,n,u,h=>by cases h
 | p::L,i,n,u,h=>by
  have hb:∀ (es:List MapEntry) (e:MapEntry) (m:Nat),bornAt (e::es) (m + 1)=bornAt es m:=fun es e m=>by
   show (match nth (e::es) (m + 1) with | some e=>some e.born | none=>none)=(match nth es m with | some e=>some e.born | none=>none)
   rw [nth_eq,nth_eq,List.getElem?_cons_succ]
  unfold posK at h
  by_cases e:k=p.1
  ·rw [if_pos e] at h
   cases h
   rfl
  ·rw [if_neg e] at h
   cases hp:posK L k with
   | none=>rw [hp] at h; cases h
   | some q =>
    rw [hp] at h
    cases h
    show bornAt (_::entsK kC vC (i + 1) L) (q.1 + 1)=_
    rw [hb,born_k L (i + 1) q.1 q.2 hp]
    congr 1; omega
theorem posK_lt {k:α}:∀ (L:List (α × β)) (n:Nat) (u:β),posK L k=some (n,u)→n < L.length
 | [],n,u,h=>by cases h
 | p::L,n,u,h=>by
  unfold posK at h
  by_cases e:k=p.1
  ·rw [if_pos e] at h; cases h; simp
  ·rw [if_neg e] at h
   cases hp:posK L k with
   | none=>rw [hp] at h; cases h
   | some q=>rw [hp] at h; cases h; have:=posK_lt L q.1 q.2 hp; simp; omega
def MapAt (kC:α→Value) (vC:β→Value) (w:AW) (b:Nat) (L:List (α × β)):Prop:=w.heap.get b=some (.map (entsK kC vC 0 L) L.length)
variable {w:AW} {b:Nat} {L:List (α × β)}
theorem lookup_k {s e:TypeId} {z:Value} (hm:mapOf P s=some (e,kt)) (hK:KeyOk kt kC) (hz:zeroA P e=some z) (hb:MapAt kC vC w b L) (k:α) (ok:Bool) :
  lookupA P w s (.map (some b)) (kC k) ok=.val (lookV ok (lookK L k).isSome (match lookK L k with | some v=>vC v | none=>z)) w:=by
 unfold lookupA
 rw [hm]
 show (bif keyFits kt (kC k) then lookR P w e ok (lookIn w kt (.map (some b)) (kC k)) else .fail)=_
 rw [hK.1]
 show lookR P w e ok (match entriesA w b with | some p=>findF kt (kC k) p.1 | none=>none)=_
 have he:entriesA w b=some (entsK kC vC 0 L,L.length):=by unfold entriesA; rw [hb]
 rw [he]
 show lookR P w e ok (findF kt (kC k) (entsK kC vC 0 L))=_
 rw [findF_eq,find_k hK]
 unfold lookK
 cases posK L k with
 | none=>simp [lookR,hz]
 | some q=>simp [lookR]
theorem update_k {s e:TypeId} (hm:mapOf P s=some (e,kt)) (hK:KeyOk kt kC) (hb:MapAt kC vC w b L) (hl:w.lim≤b) (k:α) (v:β) :
  mapUpdateA P w s (.map (some b)) (kC k) (vC v)=.val undef ⟨w.heap.put b (some (.map (entsK kC vC 0 (updK L k v)) (updK L k v).length)),w.next,w.lim⟩:=by
 unfold mapUpdateA
 rw [hm]
 have he:entriesA w b=some (entsK kC vC 0 L,L.length):=by unfold entriesA; rw [hb]
 show (bif keyFits kt (kC k) then (match entriesA w b with | none=>R.fail | some p=>mapUpdateB w b p.1 p.2 (kC k) (vC v) (findF kt (kC k) p.1)) else .fail)=_
 rw [hK.1,he]
 show mapUpdateB w b (entsK kC vC 0 L) L.length (kC k) (vC v) (findF kt (kC k) (entsK kC vC 0 L))=_
 rw [findF_eq,find_k hK]
 have h1:Nat.ble w.lim b=true:=by simpa using hl
 cases hp:posK L k with
 | none =>
  have e1:entsK kC vC 0 (updK L k v)=entsK kC vC 0 L++[⟨kC k,vC v,L.length⟩]:=by rw [pos_none hp,entsK_app]; simp [entsK]
  have e2:(updK L k v).length=L.length + 1:=by rw [updK_len,hp]; rfl
  rw [e1,e2]
  simp [mapUpdateB,setMap,putO,h1,AW.set,wR,appL_eq]
 | some q =>
  have e2:(updK L k v).length=L.length:=by rw [updK_len,hp]; rfl
  have e1:=mod_k (kC:=kC) (vC:=vC) v L 0 q.1 q.2 hp
  rw [e2,← e1]
  simp [mapUpdateB,setMap,putO,h1,AW.set,wR]
def posN (L:List (α × β)) (k:α):Nat:=match posK L k with | some q=>q.1 | none=>L.length
theorem entry_k {s e:TypeId} {z:β} (hm:mapOf P s=some (e,kt)) (hK:KeyOk kt kC) (hz:zeroA P e=some (vC z)) (hb:MapAt kC vC w b L) (hl:w.lim≤b) (k:α) :
  mapEntryA P w s (.map (some b)) (kC k)=.val (.tuple ⟨[vC ((lookK L k).getD z),.int .i64 (posN L k:Nat)]⟩) ⟨w.heap.put b (some (.map (entsK kC vC 0 (updK L k ((lookK L k).getD z))) (updK L k ((lookK L k).getD z)).length)),w.next,w.lim⟩:=by
 unfold mapEntryA
 rw [hm]
 have he:entriesA w b=some (entsK kC vC 0 L,L.length):=by unfold entriesA; rw [hb]
 show (bif keyFits kt (kC k) then (match entriesA w b with | none=>R.fail | some p=>mapEntryB P w e b p.1 p.2 (kC k) (findF kt (kC k) p.1)) else .fail)=_
 rw [hK.1,he]
 show mapEntryB P w e b (entsK kC vC 0 L) L.length (kC k) (findF kt (kC k) (entsK kC vC 0 L))=_
 rw [findF_eq,find_k hK]
 have h1:Nat.ble w.lim b=true:=by simpa using hl
 cases hp:posK L k with
 | none =>
  have hlk:lookK L k=none:=by unfold lookK; rw [hp]; rfl
  rw [hlk,Option.getD_none]
  have e1:entsK kC vC 0 (updK L k z)=entsK kC vC 0 L++[⟨kC k,vC z,L.length⟩]:=by rw [pos_none hp,entsK_app]; simp [entsK]
  have e2:(updK L k z).length=L.length + 1:=by rw [updK_len,hp]; rfl
  rw [e1,e2]
  simp [mapEntryB,hz,setMap,putO,h1,AW.set,wR,appL_eq,posN,hp,intV]
 | some q =>
  have hlk:lookK L k=some q.2:=by unfold lookK; rw [hp]; rfl
  rw [hlk,Option.getD_some]
  have e3:updK L k q.2=L:=by
   clear hb he hlk
   induction L generalizing q with
   | nil=>cases hp
   | cons p L ih =>
    unfold posK at hp
    unfold updK
    by_cases e:k=p.1
    ·rw [if_pos e] at hp ⊢
     cases hp; rfl
    ·rw [if_neg e] at hp ⊢
     cases hq:posK L k with
     | none=>rw [hq] at hp; cases hp
     | some q'=>rw [hq] at hp; cases hp; rw [ih q' hq]
  have e4:=born_k (kC:=kC) (vC:=vC) L 0 q.1 q.2 hp
  rw [e3]
  simp [mapEntryB,e4,setMap,putO,h1,AW.set,wR,posN,hp,intV]
theorem store_k (hb:MapAt kC vC w b L) (hl:w.lim≤b) (k:α) (v:β) (hk:(lookK L k).isSome=true) :
  entryStoreA w (.map (some b)) (.int .i64 (posN L k:Nat)) (vC v)=.val undef ⟨w.heap.put b (some (.map (entsK kC vC 0 (updK L k v)) (updK L k v).length)),w.next,w.lim⟩:=by
 have he:entriesA w b=some (entsK kC vC 0 L,L.length):=by unfold entriesA; rw [hb]
 have h1:Nat.ble w.lim b=true:=by simpa using hl
 cases hp:posK L k with
 | none=>unfold lookK at hk; rw [hp] at hk; cases hk
 | some q =>
  have e2:(updK L k v).length=L.length:=by rw [updK_len,hp]; rfl
  have e1:=mod_k (kC:=kC) (vC:=vC) v L 0 q.1 q.2 hp
  have e5:=findBorn_k (kC:=kC) (vC:=vC) L 0 q.1 0 (posK_lt L q.1 q.2 hp)
  simp only [Nat.zero_add] at e5
  have en:posN L k=q.1:=by unfold posN; rw [hp]
  rw [en]
  show (match entriesA w b with | none=>R.fail | some p=>entryStoreB w b p.1 p.2 (vC v) (findBorn q.1 p.1 0))=_
  rw [he]
  simp only [e5]
  rw [e2,← e1]
  simp [entryStoreB,setMap,putO,h1,AW.set,wR]
end keyed
@[simp] theorem op_mapEntry {P:Program} {t:Tm} {w:AW} (ty s:TypeId) (m k:Operand):(opS P ty (.mapEntry s m k)).val t w=mapEntryA P w s ((evS m).val t) ((evS k).val t):=rfl
@[simp] theorem op_entryStore {P:Program} {t:Tm} {w:AW} (ty s:TypeId) (m k x:Operand):(opS P ty (.entryStore s m k x)).val t w=entryStoreA w ((evS m).val t) ((evS k).val t) ((evS x).val t):=rfl
@[simp] theorem op_insert {P:Program} {t:Tm} {w:AW} (ty s:TypeId) (m k x:Operand):(opS P ty (.insert s m k x)).val t w=mapUpdateA P w s ((evS m).val t) ((evS k).val t) ((evS x).val t):=rfl
end Go.Sh
