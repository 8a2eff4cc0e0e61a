/- Part of a proof: see the text with the theorem. -/
import Derived.Test.YtiokkkjahkhbfaaSiB
import Derived.Control
set_option linter.all false
namespace Go.Sh
open Go
variable {P:Program} {φ:Inj} {A:AW} {w:World}
theorem neFirst_ok {g:Bool} {ks:List Nat} {c:Nat} (hc:Nat.beq c 0=true) {k v:Value} {l:List Value} {n:Nat} {a:Int} (hk:flatCells g k=some l) (hh:headI l=some (n,a)) (h:neFirst g n a v=true):eqFlat g (c::ks) k v=some false:=by
 unfold neFirst at h
 cases hv:flatCells g v with
 | none=>rw [hv] at h; cases h
 | some m =>
  rw [hv] at h
  simp only at h
  cases m with
  | nil=>cases h
  | cons y m =>
   simp only [neCells] at h
   cases y with
   | int j b =>
    simp only [neInt,Bool.and_eq_true] at h
    cases l with
    | nil=>cases hh
    | cons x l =>
     cases x with
     | int kk a' =>
      simp only [headI,Option.some.injEq,Prod.mk.injEq] at hh
      obtain ⟨rfl,rfl⟩:=hh
      have hs:sameK kk j=true:=h.1
      have hn:intEq a' b=false:=by simpa using h.2
      unfold eqFlat
      rw [hk,hv]
      simp only [sameL,same1,sameInt,hc,hs,Bool.and_self,cond_true,hn,cond_false]
     | _=>cases hh
   | _=>cases h
theorem findG_eq {g:Bool} {ks:List Nat} {c:Nat} (hc:Nat.beq c 0=true) {k:Value} {l:List Value} {n:Nat} {a:Int} (hk:flatCells g k=some l) (hh:headI l=some (n,a)):∀ (es:List MapEntry) (i:Nat),findG (g,c::ks) k n a es i=findA (g,c::ks) k es i
 | [],i=>rfl
 | e::es,i=>by
  have ih:=findG_eq (ks:=ks) hc hk hh es (i + 1)
  show Bool.rec (motive:=fun _=>Option (Option (Nat × Value))) (findH i e.val (findG (g,c::ks) k n a es) (eqFlat g (c::ks) k e.key)) (findG (g,c::ks) k n a es (i + 1)) (neFirst g n a e.key)=_
  rw [bool_rec]
  unfold findA
  by_cases hn:neFirst g n a e.key=true
  ·rw [if_pos hn,ih]
   simp only [neFirst_ok hc hk hh hn,cond_false]
  ·rw [if_neg hn]
   unfold findH
   cases eqFlat g (c::ks) k e.key with
   | none=>rfl
   | some b=>cases b with
    | true=>rfl
    | false=>exact ih
theorem findF_eq (kt:KeyT) (k:Value) (es:List MapEntry):findF kt k es=findA kt k es 0:=by
 obtain ⟨g,ks⟩:=kt
 unfold findF
 cases hq:headOf (g,ks) k with
 | none=>rfl
 | some p =>
  unfold headOf at hq
  cases ks with
  | nil=>cases hq
  | cons c ks =>
   simp only at hq
   cases hc:Nat.beq c 0 with
   | false=>rw [hc] at hq; cases hq
   | true =>
    rw [hc] at hq
    simp only [cond_true] at hq
    cases hl:flatCells g k with
    | none=>rw [hl] at hq; cases hq
    | some l =>
     rw [hl] at hq
     obtain ⟨n,a⟩:=p
     exact findG_eq hc hl hq es 0
theorem checkKey_run (em:Bool):∀ (d:Nat) (t:TypeId) (ks:List Nat),flatT P d t=some ks→∀ D,d≤D→∀ (x:Value),(aggOf P t=some true→∃ xs,x=.agg ⟨xs⟩∧xs.length=ks.length)→∀ w,(Instr.checkKey em D t x).run P w=.ok () w
 | 0,_,_,h=>by cases h
 | d + 1,t,ks,h=>by
  intro D hD x hx w
  obtain ⟨d',hd',hs,hc⟩:=flatT_some h
  cases hd'
  obtain ⟨D',rfl⟩:∃ D',D=D' + 1:=⟨D - 1,by omega⟩
  rcases hc with ⟨c,dd,rfl,hu,hk,hg'⟩ | ⟨fs,hu,hst,hff,hg'⟩ | ⟨n,e,k1,hu,hf,rfl,hg'⟩
  ·rcases hk with ⟨_,k,rfl⟩ | ⟨_,rfl⟩ | ⟨_,rfl⟩ <;> simp [Instr.checkKey,run_underlying' hu]
  ·obtain ⟨xs,rfl,hl⟩:=hx hg'
   simp only [Instr.checkKey,Sem.run_bind,run_underlying' hu,Result.andThen_ok]
   rw [← Array.forIn_toList]
   have key:∀ (l:List Field) (n:Nat) (k:List Nat),flatFields (flatT P d) l n=some k→n + k.length≤xs.length →
     (forIn l PUnit.unit fun f (_:PUnit)=>(if f.name ≠ "_" then do
      let v ← part f.type ⟨xs⟩ f.offset
      Instr.checkKey em D' f.type v
      pure (ForInStep.yield PUnit.unit)
      else pure (ForInStep.yield PUnit.unit):Sem (ForInStep PUnit))).run P w=.ok PUnit.unit w:=by
    intro l
    induction l with
    | nil=>intro n k _ _; rfl
    | cons f l ih =>
     intro n k hk hn
     obtain ⟨rfl,hname,k1,k2,q1,q2,rfl⟩:=flatFields_cons hk
     rw [List.length_append] at hn
     have hpart:∃ v,(∀ w,(part f.type ⟨xs⟩ f.offset).run P w=.ok v w)∧(aggOf P f.type=some true→∃ ys,v=.agg ⟨ys⟩∧ys.length=k1.length):=by
      rcases part_flat q1 ⟨xs⟩ f.offset with ⟨hg,h1⟩ | ⟨hg,c,rfl,h1⟩
      ·refine ⟨_,h1,fun _=>⟨(xs.drop f.offset).take k1.length,?_,by simp; omega⟩⟩
       congr 1
       apply Array.ext'
       simp [List.take_drop]
      ·have hlt:f.offset < xs.length:=by simp at hn; omega
       exact ⟨xs[f.offset],h1 _ (by simp [hlt]),fun h=>by rw [hg] at h; cases h⟩
     obtain ⟨v,h1,h2⟩:=hpart
     have hrun:=checkKey_run em d f.type k1 q1 D' (by omega) v h2 w
     rw [List.forIn_cons]
     simp only [hname,ne_eq,not_false_eq_true,if_true,Sem.run_bind,h1,Result.andThen_ok,hrun,Sem.run_pure]
     exact ih _ _ q2 (by omega)
   have:=key fs.toList 0 ks hff (by omega)
   simp at this ⊢
   rw [this]; rfl
  ·obtain ⟨xs,rfl,hl⟩:=hx hg'
   have hse:szOf P e=some k1.length:=(flatT_some hf).choose_spec.2.1
   simp only [Instr.checkKey,Sem.run_bind,run_underlying' hu,Result.andThen_ok]
   simp only [Std.Legacy.Range.forIn_eq_forIn_range',Std.Legacy.Range.size,Nat.sub_zero,Nat.add_one_sub_one,Nat.div_one]
   rw [repl_length] at hl
   have key:∀ (m s:Nat),(s + m) * k1.length≤xs.length →
     (forIn (List.range' s m) PUnit.unit fun i (_:PUnit)=>(do
      let z ← sizeOf e
      let v ← part e ⟨xs⟩ (i * z)
      Instr.checkKey em D' e v
      pure (ForInStep.yield PUnit.unit):Sem (ForInStep PUnit))).run P w=.ok PUnit.unit w:=by
    intro m
    induction m with
    | zero=>intro s _; rfl
    | succ m ih =>
     intro s hn
     have hn':(s + 1) * k1.length≤xs.length:=Nat.le_trans (Nat.mul_le_mul_right _ (by omega)) hn
     rw [Nat.succ_mul] at hn'
     have hpart:∃ v,(∀ w,(part e ⟨xs⟩ (s * k1.length)).run P w=.ok v w)∧(aggOf P e=some true→∃ ys,v=.agg ⟨ys⟩∧ys.length=k1.length):=by
      rcases part_flat hf ⟨xs⟩ (s * k1.length) with ⟨hg,h1⟩ | ⟨hg,c,rfl,h1⟩
      ·refine ⟨_,h1,fun _=>⟨(xs.drop (s * k1.length)).take k1.length,?_,by simp; omega⟩⟩
       congr 1
       apply Array.ext'
       simp [List.take_drop]
      ·have hlt:s * [c].length < xs.length:=by simp only [List.length_cons,List.length_nil] at hn' ⊢; omega
       exact ⟨xs[s * [c].length],h1 _ (by rw [← Array.getElem?_toList]; exact List.getElem?_eq_getElem hlt),fun h=>by rw [hg] at h; cases h⟩
     obtain ⟨v,h1,h2⟩:=hpart
     have hrun:=checkKey_run em d e k1 hf D' (by omega) v h2 w
     rw [List.range'_succ,List.forIn_cons]
     simp only [Sem.run_bind,run_sizeOf hse,h1,Result.andThen_ok,hrun,Sem.run_pure]
     exact ih (s + 1) (by rw [show s + 1 + m=s + (m + 1) from by omega]; exact hn)
   have:=key n 0 (by rw [Nat.zero_add,hl]; exact Nat.le_refl _)
   simp at this ⊢
   rw [this]; rfl
theorem same1_true {c:Nat} {x y:Value} (h:same1 c x y=some true):x=y∧∀ n,Instr.sameBits n x x=true:=by
 cases x with
 | int k n=>cases y with
  | int j m =>
   have h5:(bif Nat.beq c 0 && sameK k j then some (intEq n m) else none)=some true:=h
   cases hk:(Nat.beq c 0 && sameK k j) with
   | false=>rw [hk] at h5; cases h5
   | true =>
    rw [hk] at h5
    simp only [Bool.and_eq_true] at hk
    have:=sameK_eq hk.2
    subst this
    have e3:(n == m)=true:=by rw [← intEq_eq]; exact opt_some h5
    have:n=m:=by simpa using e3
    subst this
    exact ⟨rfl,fun n=>by cases n <;> simp [Instr.sameBits]⟩
  | _=>cases h
 | bool a=>cases y with
  | bool b =>
   have h5:(bif Nat.beq c 1 then some (a == b) else none)=some true:=h
   cases hk:Nat.beq c 1 with
   | false=>rw [hk] at h5; cases h5
   | true =>
    rw [hk] at h5
    have:a=b:=by simpa using opt_some h5
    subst this
    exact ⟨rfl,fun n=>by cases n <;> simp [Instr.sameBits]⟩
  | _=>cases h
 | string a=>cases y with
  | string b =>
   have h5:(bif Nat.beq c 2 then some (byteL (bytesOf a) (bytesOf b)) else none)=some true:=h
   cases hk:Nat.beq c 2 with
   | false=>rw [hk] at h5; cases h5
   | true =>
    rw [hk] at h5
    have e3:=opt_some h5
    rw [byteL_eq] at e3
    have e4:bytesOf a=bytesOf b:=by simpa using e3
    have:a=b:=by
     obtain ⟨⟨a⟩⟩:=a
     obtain ⟨⟨b⟩⟩:=b
     have:a=b:=e4
     rw [this]
    subst this
    exact ⟨rfl,fun n=>by cases n <;> simp [Instr.sameBits,beq_toListBytes]⟩
  | _=>cases h
 | _=>cases h
theorem sameL_true:∀ {ks:List Nat} {xs ys:List Value},sameL ks xs ys=some true→xs=ys∧∀ n,(xs.zip xs).all (fun (p:Value × Value)=>Instr.sameBits n p.1 p.2)=true
 | [],[],[],_=>⟨rfl,fun _=>rfl⟩
 | [],_::_,_,h=>by cases h
 | [],[],_::_,h=>by cases h
 | _::_,[],_,h=>by cases h
 | _::_,_::_,[],h=>by cases h
 | c::ks,x::xs,y::ys,h=>by
  simp only [sameL] at h
  cases hs:same1 c x y with
  | none=>rw [hs] at h; cases h
  | some b =>
   rw [hs] at h
   cases b with
   | false=>cases h
   | true =>
    obtain ⟨rfl,h1⟩:=same1_true hs
    obtain ⟨rfl,h2⟩:=sameL_true (by simpa using h)
    exact ⟨rfl,fun n=>by simp only [List.zip_cons_cons,List.all_cons,h1,h2,Bool.and_self]⟩
theorem eqFlat_true {g:Bool} {ks:List Nat} {x y:Value} (h:eqFlat g ks x y=some true):x=y∧Instr.sameBits 10000 x x=true:=by
 obtain ⟨xs,ys,h1,h2,h3⟩:=eqFlat_inv h
 obtain ⟨e,h4⟩:=sameL_true h3
 subst e
 cases g with
 | true =>
  have e1:=flatCells_true h1
  have e2:=flatCells_true h2
  subst e1 e2
  refine ⟨rfl,?_⟩
  show Instr.sameBits (9999 + 1) _ _=true
  rw [Instr.sameBits]
  simpa using h4 9999
 | false =>
  have e1:=flatCells_false h1
  have e2:=flatCells_false h2
  subst e1
  have e3:x=y:=by injection e2
  subst e3
  have:=h4 10000
  simp only [List.zip_cons_cons,List.zip_nil_right,List.all_cons,List.all_nil,Bool.and_true] at this
  exact ⟨rfl,this⟩
def FR (φ:Inj) (g:Bool) (ks:List Nat) (k':Value) (es':List MapEntry) (i:Nat) (r r':Option (Nat × Value)):Prop :=
 match r with
 | none=>r'=none
 | some p=>∃ e',i≤p.1∧es'[p.1 - i]?=some e'∧r'=some (p.1,e'.val)∧VR φ p.2 e'.val∧eqFlat g ks k' e'.key=some true
theorem findAsking_ok {t:TypeId} {g:Bool} {ks:List Nat} (hf:flatT P 8 t=some ks) (hg:aggOf P t=some g) {k k':Value} (hk:VR φ k k'):∀ {es es':List MapEntry},ER φ es es'→∀ (i:Nat) {r:Option (Nat × Value)},findA (g,ks) k es i=some r →
  ∃ r',(∀ w,(Instr.findAsking t k' es' i).run P w=.ok r' w)∧FR φ g ks k' es' i r r'
 | _,_,.nil,i,r,h=>by
  simp only [findA] at h
  cases h
  exact ⟨none,fun _=>rfl,rfl⟩
 | _,_,.cons (e:=e) (e':=e') (l:=l) (l':=l') h1 h2 h3 h4,i,r,h=>by
  simp only [findA] at h
  cases hb:eqFlat g ks k e.key with
  | none=>rw [hb] at h; cases h
  | some b =>
   rw [hb] at h
   have h5:=eqFlat_VR hb hk h1
   have hrun:∀ w,(Op.equal t k' e'.key).run P w=.ok b w:=eqFlat_run 8 t ks hf g hg 10000 (by omega) k' e'.key b h5
   cases b with
   | true =>
    cases h
    exact ⟨some (i,e'.val),fun w=>by simp [Instr.findAsking,hrun],e',Nat.le_refl _,by simp,rfl,h2,h5⟩
   | false =>
    obtain ⟨r',q1,q2⟩:=findAsking_ok hf hg hk h4 (i + 1) h
    refine ⟨r',fun w=>by simp [Instr.findAsking,hrun,q1],?_⟩
    cases r with
    | none=>exact q2
    | some p =>
     obtain ⟨e2,g1,g2,g3⟩:=q2
     refine ⟨e2,by omega,?_,g3⟩
     rw [show p.1 - i=(p.1 - (i + 1)) + 1 from by omega]
     exact g2
theorem findNow_ok {t:TypeId} {d:TypeDesc} (hu:P.underlying t=some d) {k':Value}:∀ (es:List MapEntry) (i:Nat) {r:Option (Nat × Value)},Instr.findNow d k' es i=some r→∀ w,(Instr.findAsking t k' es i).run P w=.ok r w
 | [],i,r,h,w=>by
  simp only [Instr.findNow] at h
  cases h; rfl
 | e::es,i,r,h,w=>by
  simp only [Instr.findNow] at h
  cases hs:Instr.sameNow d k' e.key with
  | none=>rw [hs] at h; cases h
  | some b =>
   have hrun:(Op.equal t k' e.key).run P w=.ok b w:=by
    show (Op.equalIn (9999 + 1) t k' e.key).run P w=_
    generalize 9999=D
    generalize e.key=y at hs
    unfold Instr.sameNow at hs
    split at hs
    ·split at hs
     ·rename_i hj
      subst hj
      rw [run_equalIn_int w D t _ _ _ _ hu,← opt_some hs]
     ·cases hs
    ·rw [run_equalIn_string w D t _ _ hu,← opt_some hs,beq_toListBytes]
    ·rw [run_equalIn_bool w D t _ _ hu,← opt_some hs]
    ·cases hs
   rw [hs] at h
   cases b with
   | true=>cases h; simp [Instr.findAsking,hrun]
   | false=>simp [Instr.findAsking,hrun,findNow_ok hu es (i + 1) h]
theorem findKey_ok {t:TypeId} {g:Bool} {ks:List Nat} (hf:flatT P 8 t=some ks) (hg:aggOf P t=some g) {k k':Value} (hk:VR φ k k') {es es':List MapEntry} (he:ER φ es es') {r:Option (Nat × Value)} (h:findA (g,ks) k es 0=some r) (w:World) :
  ∃ r',(Instr.findKey t k' es').run P w=.ok r' w∧FR φ g ks k' es' 0 r r':=by
 obtain ⟨r',h1,h2⟩:=findAsking_ok hf hg hk he 0 h
 refine ⟨r',?_,h2⟩
 obtain ⟨d',_,_,hc⟩:=flatT_some hf
 have hu:∃ d,P.underlying t=some d:=by
  rcases hc with ⟨c,dd,_,hu,_⟩ | ⟨fs,hu,_⟩ | ⟨n,e,k1,hu,_⟩ <;> exact ⟨_,hu⟩
 obtain ⟨d,hu⟩:=hu
 simp only [Instr.findKey,Sem.run_bind,run_underlying' hu,Result.andThen_ok]
 cases hn:Instr.findNow d k' es' 0 with
 | none=>exact h1 w
 | some r2 =>
  have:=findNow_ok hu es' 0 hn w
  rw [h1 w] at this
  injection this with this
  subst this
  rfl
theorem mapOf_some {t:TypeId} {p:TypeId × KeyT} (h:mapOf P t=some p):∃ k,P.underlying t=some (.map k p.1)∧flatT P 8 k=some p.2.2∧aggOf P k=some p.2.1:=by
 unfold mapOf at h
 split at h
 ·rename_i k e hu
  cases hk:keyOf P k with
  | none=>rw [hk] at h; cases h
  | some kt =>
   rw [hk] at h
   cases h
   unfold keyOf at hk
   cases hf:flatT P 8 k with
   | none=>rw [hf] at hk; cases hk
   | some ks =>
    rw [hf] at hk
    simp only at hk
    cases hg:aggOf P k with
    | none=>rw [hg] at hk; cases hk
    | some b=>rw [hg] at hk; cases hk; exact ⟨k,hu,hf,hg⟩
 ·cases h
theorem keyFits_ok {kt:KeyT} {k k':Value} (h:keyFits kt k=true) (hk:VR φ k k') {t:TypeId} (hg:aggOf P t=some kt.1):aggOf P t=some true→∃ xs,k'=.agg ⟨xs⟩∧xs.length=kt.2.length:=by
 intro ht
 rw [hg] at ht
 have ht:=opt_some ht
 unfold keyFits at h
 cases hc:flatCells kt.1 k with
 | none=>rw [hc] at h; cases h
 | some cs =>
  rw [hc] at h
  rw [ht] at hc
  have:=flatCells_true hc
  subst this
  have hl:=Nat.eq_of_beq_eq_true h
  rw [lenL0] at hl
  cases hk with
  | agg hk=>exact ⟨_,rfl,by rw [← hk.length,hl,lenL0]⟩
theorem lookup_ok (hM:MR P φ A w) (t:TypeId) (ok:Bool) {m m' k k':Value} (hm:VR φ m m') (hk:VR φ k k') :
  OpOk P φ A w (lookupA P A t m k ok) ((do pure (.value (← Instr.lookup t m' k' ok):Next):Sem Next).run P w):=by
 unfold lookupA
 cases hmo:mapOf P t with
 | none=>exact trivial
 | some p =>
  obtain ⟨kt,hu,hf,hg⟩:=mapOf_some hmo
  simp only
  cases hfit:keyFits p.2 k with
  | false=>exact trivial
  | true =>
   have hck:=keyFits_ok hfit hk hg
   simp only [cond_true]
   have key:∀ (es:List MapEntry) (es':List MapEntry),ER φ es es'→lookIn A p.2 m k=findA p.2 k es 0 →
     ((Instr.lookup t m' k' ok).run P w=((Instr.checkKey (⟨es'⟩:Array MapEntry).isEmpty 10000 kt k').run P w).andThen fun _ w'=>((Instr.findKey kt k' es').run P w').andThen fun a w'=>(match a with
       | some (_,v)=>pure (if ok then .tuple #[v,.bool true] else v)
       | none=>do let z ← zeroValue p.1; pure (if ok then .tuple #[z,.bool false] else z):Sem Value).run P w')→OpOk P φ A w (lookR P A p.1 ok (lookIn A p.2 m k)) ((do pure (.value (← Instr.lookup t m' k' ok):Next):Sem Next).run P w):=by
    intro es es' he hl hr
    rw [hl]
    cases hfa:findA p.2 k es 0 with
    | none=>exact trivial
    | some r =>
     obtain ⟨r',q1,q2⟩:=findKey_ok (g:=p.2.1) (ks:=p.2.2) hf hg hk he hfa w
     rw [checkKey_run _ 8 kt p.2.2 hf 10000 (by omega) k' hck] at hr
     simp only [Result.andThen_ok,q1] at hr
     simp only [lookR]
     cases r with
     | none =>
      have:r'=none:=q2
      subst this
      simp only
      cases hz:zeroA P p.1 with
      | none=>exact trivial
      | some z =>
       obtain ⟨_,_,_,h3,_⟩:=zeroA_some hz
       refine OpOk.same hM (lookV_VR (b:=false) (h3 φ)) (run_v ?_)
       rw [hr]
       cases ok <;> simp [run_zeroValue hz]
     | some pr =>
      obtain ⟨e',_,_,rfl,hv,_⟩:=q2
      refine OpOk.same hM (lookV_VR (b:=true) hv) (run_v ?_)
      rw [hr]
      cases ok <;> simp
   cases hm with
   | mapNil=>exact key [] [] .nil rfl (by unfold Instr.lookup; simp only [Sem.run_bind,run_underlying' hu,Result.andThen_ok,Sem.run_pure]; exact congrArg _ (funext fun _=>funext fun _=>congrArg _ (funext fun a=>funext fun _=>by cases a <;> rfl)))
   | map hr =>
    rename_i r r'
    cases hen:entriesA A r with
    | none =>
     have:lookIn A p.2 (.map (some r)) k=none:=by simp only [lookIn,hen]
     rw [this]; exact trivial
    | some q =>
     obtain ⟨n,s,d,es',h1,h2,h3⟩:=entries_ok hM hr hen
     exact key q.1 es' h3 (by simp only [lookIn,hen,findF_eq]) (by unfold Instr.lookup; simp only [Sem.run_bind,run_underlying' hu,Result.andThen_ok,Sem.run_pure,h2]; exact congrArg _ (funext fun _=>funext fun _=>congrArg _ (funext fun a=>funext fun _=>by cases a <;> rfl)))
   | _=>exact trivial
theorem modVal_nil (i:Nat) (v:Value):modVal [] i v=[]:=rfl
theorem modVal_zero (e:MapEntry) (es:List MapEntry) (v:Value):modVal (e::es) 0 v=⟨e.key,v,e.born⟩::es:=rfl
theorem modVal_succ (e:MapEntry) (es:List MapEntry) (i:Nat) (v:Value):modVal (e::es) (i + 1) v=e::modVal es i v:=rfl
theorem modVal_ER {es es':List MapEntry} (he:ER φ es es'):∀ {i:Nat} {e':MapEntry},es'[i]?=some e'→∀ {x x':Value},VR φ x x'→ER φ (modVal es i x) (es'.modify i fun e=>{ e with key:=e'.key,val:=x' }):=by
 induction he with
 | nil=>intro i e' h; simp at h
 | cons hk hv hb h ih =>
  intro i e' hi x x' hx
  cases i with
  | zero =>
   simp at hi
   subst hi
   simp only [modVal_zero,List.modify_zero_cons]
   exact .cons hk hx hb h
  | succ i =>
   simp only [modVal_succ,List.modify_succ_cons]
   exact .cons hk hv hb (ih (by simpa using hi) hx)
theorem ER.append {l l' m m':List MapEntry} (h:ER φ l l') (k:ER φ m m'):ER φ (l++m) (l'++m'):=by
 induction h with
 | nil=>exact k
 | cons hk hv hb _ ih=>exact .cons hk hv hb ih
theorem run_u {s:Sem Unit} {w':World} (h:s.run P w=.ok () w'):(do s; pure .skip:Sem Next).run P w=.ok .skip w':=by simp [h]
theorem mapUpdate_ok (hM:MR P φ A w) (t:TypeId) {m m' k k' x x':Value} (hm:VR φ m m') (hk:VR φ k k') (hx:VR φ x x') :
  OpOk P φ A w (mapUpdateA P A t m k x) ((do Instr.mapUpdate t m' k' x'; pure .skip:Sem Next).run P w):=by
 unfold mapUpdateA
 cases hmo:mapOf P t with
 | none=>exact trivial
 | some q =>
  obtain ⟨kt,hu,hf,hg⟩:=mapOf_some hmo
  simp only
  cases hfit:keyFits q.2 k with
  | false=>exact trivial
  | true =>
   have hck:=keyFits_ok hfit hk hg
   simp only [cond_true]
   cases hm with
   | mapNil=>exact trivial
   | map hr =>
    rename_i r r'
    simp only
    cases hen:entriesA A r with
    | none=>exact trivial
    | some p =>
     obtain ⟨n,s,d,es',h1,h2,h3⟩:=entries_ok hM hr hen
     simp only [findF_eq]
     cases hfa:findA q.2 k p.1 0 with
     | none=>exact trivial
     | some f =>
      obtain ⟨f',q1,q2⟩:=findKey_ok (g:=q.2.1) (ks:=q.2.2) hf hg hk h3 hfa w
      have hset:∀ o:Obj,(∃ o0,w.heap[r']?=some o0∧∀ a b c,o0 ≠ .cells a b c)→(setObj r' o).run P w=.ok () (setBlk w r' o):=by
       rintro o ⟨o0,g1,g2⟩
       unfold setObj
       simp only [Sem.run,g1]
       rfl
      have hold:∃ o0,w.heap[r']?=some o0∧∀ a b c,o0 ≠ .cells a b c:=by
       obtain ⟨o,oc,g1,g2,g3⟩:=hM.obj _ _ _ _ _ h1
       have g4:o=.map p.1 p.2:=by
        unfold entriesA at hen
        rw [g1] at hen
        cases o with
        | map es c=>cases hen; rfl
        | _=>cases hen
       subst g4
       obtain ⟨es2,g5,_⟩:=g3
       exact ⟨oc,g2,by rw [g5]; intro a b c h; cases h⟩
      have fin:∀ (esA:List MapEntry) (esC:List MapEntry) (c:Nat),ER φ esA esC→(Instr.mapUpdate t (.map (some r')) k' x').run P w=(setObj r' (.map ⟨esC⟩ c)).run P w →
        OpOk P φ A w (setMap A r esA c undef) ((do Instr.mapUpdate t (.map (some r')) k' x'; pure .skip:Sem Next).run P w):=by
       intro esA esC c he hrun
       unfold setMap
       cases hp:putO A r (.map esA c) with
       | none=>exact trivial
       | some A' =>
        obtain ⟨hlim,rfl⟩:=putO_some hp
        obtain ⟨s1,s2⟩:=hM.set (o:=.map esA c) (oc:=.map ⟨esC⟩ c) h1 hlim (n':=n) (s':=s) (d':=d) ⟨esC,rfl,he⟩ ⟨rfl,rfl,rfl⟩
        exact ⟨φ,_,s1,s2,.inr ⟨run_u (hrun.trans (hset _ hold)),rfl⟩⟩
      have hrun0:(Instr.mapUpdate t (.map (some r')) k' x').run P w=((match f' with
        | some (i,_)=>do
         let key ← Instr.keyThatStays ((((⟨es'⟩:Array MapEntry)[i]?).map (·.key)).getD k') k'
         setObj r' (.map ((⟨es'⟩:Array MapEntry).modify i fun e=>{ e with key,val:=x' }) p.2)
        | none=>setObj r' (.map ((⟨es'⟩:Array MapEntry).push { key:=k',val:=x',born:=p.2 }) (p.2 + 1)):Sem Unit)).run P w:=by
       unfold Instr.mapUpdate
       simp only [Sem.run_bind,run_underlying' hu,Result.andThen_ok,h2]
       rw [checkKey_run _ 8 kt q.2.2 hf 10000 (by omega) k' hck]
       simp only [Result.andThen_ok,q1]
       cases f' <;> simp
      simp only [mapUpdateB]
      cases f with
      | none =>
       have:f'=none:=q2
       subst this
       simp only [appL_eq]
       refine fin _ (es'++[{ key:=k',val:=x',born:=p.2 }]) _ (h3.append (.cons hk hx rfl .nil)) (hrun0.trans ?_)
       simp
      | some pr =>
       obtain ⟨e',_,g1,rfl,hv,g2⟩:=q2
       obtain ⟨rfl,g3⟩:=eqFlat_true g2
       simp only [Nat.sub_zero] at g1
       refine fin _ (es'.modify pr.1 fun e=>{ e with key:=e'.key,val:=x' }) _ (modVal_ER h3 g1 hx) (hrun0.trans ?_)
       have g4:(⟨es'⟩:Array MapEntry)[pr.1]?=some e':=by simpa using g1
       simp only [g4,Option.map_some,Option.getD_some,Instr.keyThatStays,g3,if_true,Sem.run_bind,Sem.run_pure,Result.andThen_ok]
       congr 3
       apply Array.ext'
       simp
   | _=>exact trivial
theorem bornAt_eq (es:List MapEntry) (i:Nat):bornAt es i=(es[i]?).map (·.born):=by
 unfold bornAt
 rw [nth_eq]
 cases es[i]? <;> rfl
theorem ER.born {es es':List MapEntry} (he:ER φ es es'):∀ {i:Nat} {e':MapEntry},es'[i]?=some e'→(es[i]?).map (·.born)=some e'.born:=by
 induction he with
 | nil=>intro i e' h; simp at h
 | cons hk hv hb h ih =>
  intro i e' hi
  cases i with
  | zero=>simp at hi; subst hi; simp [hb]
  | succ i=>simpa using ih (by simpa using hi)
theorem modKey_same:∀ {es:List MapEntry} {i:Nat} {e':MapEntry},es[i]?=some e'→(es.modify i fun e=>{ e with key:=e'.key })=es
 | [],i,e',h=>by simp at h
 | e::es,0,e',h=>by simp at h; subst h; simp
 | e::es,i + 1,e',h=>by
  rw [List.modify_succ_cons,modKey_same (by simpa using h)]
theorem run_setObj {r':Nat} (o:Obj) (h:∃ o0,w.heap[r']?=some o0∧∀ a b c,o0 ≠ .cells a b c):(setObj r' o).run P w=.ok () (setBlk w r' o):=by
 obtain ⟨o0,g1,g2⟩:=h
 unfold setObj
 simp only [Sem.run,g1]
 rfl
theorem old_map (hM:MR P φ A w) {r r' n s d:Nat} (h1:φ r=some (.at_ r' n s d)) {p:List MapEntry × Nat} (hen:entriesA A r=some p):∃ o0,w.heap[r']?=some o0∧∀ a b c,o0 ≠ .cells a b c:=by
 obtain ⟨o,oc,g1,g2,g3⟩:=hM.obj _ _ _ _ _ h1
 have g4:o=.map p.1 p.2:=by
  unfold entriesA at hen
  rw [g1] at hen
  cases o with
  | map es c=>cases hen; rfl
  | _=>cases hen
 subst g4
 obtain ⟨es2,g5,_⟩:=g3
 exact ⟨oc,g2,by rw [g5]; intro a b c h; cases h⟩
theorem mapEntry_ok (hM:MR P φ A w) (t:TypeId) {m m' k k':Value} (hm:VR φ m m') (hk:VR φ k k') :
  OpOk P φ A w (mapEntryA P A t m k) ((do pure (.value (← Instr.mapEntry t m' k'):Next):Sem Next).run P w):=by
 unfold mapEntryA
 cases hmo:mapOf P t with
 | none=>exact trivial
 | some q =>
  obtain ⟨kt,hu,hf,hg⟩:=mapOf_some hmo
  simp only
  cases hfit:keyFits q.2 k with
  | false=>exact trivial
  | true =>
   have hck:=keyFits_ok hfit hk hg
   simp only [cond_true]
   cases hm with
   | mapNil=>exact trivial
   | map hr =>
    rename_i r r'
    simp only
    cases hen:entriesA A r with
    | none=>exact trivial
    | some p =>
     obtain ⟨n,s,d,es',h1,h2,h3⟩:=entries_ok hM hr hen
     simp only [findF_eq]
     cases hfa:findA q.2 k p.1 0 with
     | none=>exact trivial
     | some f =>
      obtain ⟨f',q1,q2⟩:=findKey_ok (g:=q.2.1) (ks:=q.2.2) hf hg hk h3 hfa w
      have hold:=old_map hM h1 hen
      have fin:∀ (esA:List MapEntry) (esC:List MapEntry) (c:Nat) (v v':Value),VR φ v v'→ER φ esA esC→(Instr.mapEntry t (.map (some r')) k').run P w=((setObj r' (.map ⟨esC⟩ c)).run P w).andThen (fun _ w'=>.ok v' w') →
        OpOk P φ A w (setMap A r esA c v) ((do pure (.value (← Instr.mapEntry t (.map (some r')) k'):Next):Sem Next).run P w):=by
       intro esA esC c v v' hv he hrun
       unfold setMap
       cases hp:putO A r (.map esA c) with
       | none=>exact trivial
       | some A' =>
        obtain ⟨hlim,rfl⟩:=putO_some hp
        obtain ⟨s1,s2⟩:=hM.set (o:=.map esA c) (oc:=.map ⟨esC⟩ c) h1 hlim (n':=n) (s':=s) (d':=d) ⟨esC,rfl,he⟩ ⟨rfl,rfl,rfl⟩
        exact ⟨φ,_,s1,s2,.inl ⟨v',run_v (by rw [hrun,run_setObj _ hold]; rfl),hv⟩⟩
      have hrun0:(Instr.mapEntry t (.map (some r')) k').run P w=((match f' with
        | some (i,v)=>do
         let key ← Instr.keyThatStays ((((⟨es'⟩:Array MapEntry)[i]?).map (·.key)).getD k') k'
         setObj r' (.map ((⟨es'⟩:Array MapEntry).modify i fun e=>{ e with key }) p.2)
         pure (.tuple #[v,goInt ((((⟨es'⟩:Array MapEntry)[i]?).map (·.born)).getD 0)])
        | none=>do
         let zero ← zeroValue q.1
         setObj r' (.map ((⟨es'⟩:Array MapEntry).push { key:=k',val:=zero,born:=p.2 }) (p.2 + 1))
         pure (.tuple #[zero,goInt p.2]):Sem Value)).run P w:=by
       unfold Instr.mapEntry
       simp only [Sem.run_bind,run_underlying' hu,Result.andThen_ok,h2]
       rw [checkKey_run _ 8 kt q.2.2 hf 10000 (by omega) k' hck]
       simp only [Result.andThen_ok,q1]
       cases f' <;> simp
      simp only [mapEntryB]
      cases f with
      | none =>
       have:f'=none:=q2
       subst this
       simp only [appL_eq]
       cases hz:zeroA P q.1 with
       | none=>exact trivial
       | some z =>
        obtain ⟨_,_,_,z3,_⟩:=zeroA_some hz
        refine fin _ (es'++[{ key:=k',val:=z,born:=p.2 }]) _ _ (.tuple ⟨[z,goInt p.2]⟩) (.tuple (.cons (z3 φ) (.cons (.int _ _) .nil))) (h3.append (.cons hk (z3 φ) rfl .nil)) (hrun0.trans ?_)
        simp only [Sem.run_bind,run_zeroValue hz,Result.andThen_ok,Sem.run_pure]
        simp
      | some pr =>
       obtain ⟨e',_,g1,rfl,hv,g2⟩:=q2
       obtain ⟨rfl,g3⟩:=eqFlat_true g2
       simp only [Nat.sub_zero] at g1
       have hb:bornAt p.1 pr.1=some e'.born:=(bornAt_eq _ _).trans (h3.born g1)
       simp only [hb]
       refine fin _ es' _ _ (.tuple ⟨[e'.val,goInt e'.born]⟩) (.tuple (.cons hv (.cons (.int _ _) .nil))) h3 (hrun0.trans ?_)
       have g4:(⟨es'⟩:Array MapEntry)[pr.1]?=some e':=by simpa using g1
       simp only [g4,Option.map_some,Option.getD_some,Instr.keyThatStays,g3,if_true,Sem.run_bind,Sem.run_pure,Result.andThen_ok]
       have g5:((⟨es'⟩:Array MapEntry).modify pr.1 fun e=>{ e with key:=e'.key })=⟨es'⟩:=by
        apply Array.ext'
        simpa using modKey_same g1
       rw [g5]
   | _=>exact trivial
theorem findBorn_ok {es es':List MapEntry} (he:ER φ es es') (b:Nat):∀ (k:Nat) {i:Nat},findBorn b es k=some i→k≤i∧es'.findIdx? (fun e=>(e.born:Int) == (b:Int))=some (i - k):=by
 induction he with
 | nil=>intro k i h; cases h
 | cons hk hv hb h ih =>
  rename_i e e' l l'
  intro k i hi
  have hi:(bif Nat.beq e.born b then some k else findBorn b l (k + 1))=some i:=by
   rw [← hi]
   show _=Bool.rec (motive:=fun _=>Option Nat) (findBorn b l (k + 1)) (some k) (Nat.beq e.born b)
   rw [bool_rec]
   cases Nat.beq e.born b <;> rfl
  cases hq:Nat.beq e.born b with
  | true =>
   rw [hq] at hi
   cases hi
   have:e'.born=b:=by rw [← hb]; exact Nat.eq_of_beq_eq_true hq
   refine ⟨Nat.le_refl _,?_⟩
   rw [List.findIdx?_cons]
   simp [this]
  | false =>
   rw [hq] at hi
   obtain ⟨h1,h2⟩:=ih (k + 1) hi
   have hne:¬ (e'.born=b):=fun h3=>by
    rw [← hb] at h3
    rw [h3,Nat.beq_refl] at hq
    cases hq
   refine ⟨by omega,?_⟩
   rw [List.findIdx?_cons,h2]
   have:((e'.born:Int) == (b:Int))=false:=by
    rw [beq_eq_false_iff_ne]
    intro h3
    exact hne (by omega)
   simp only [this]
   simp
   omega
theorem modVal_ER' {es es':List MapEntry} (he:ER φ es es'):∀ (i:Nat) {x x':Value},VR φ x x'→ER φ (modVal es i x) (es'.modify i fun e=>{ e with val:=x' }):=by
 induction he with
 | nil=>intro i x x' hx; simp [modVal_nil]; exact .nil
 | cons hk hv hb h ih =>
  intro i x x' hx
  cases i with
  | zero=>simp only [modVal_zero,List.modify_zero_cons]; exact .cons hk hx hb h
  | succ i=>simp only [modVal_succ,List.modify_succ_cons]; exact .cons hk hv hb (ih i hx)
theorem entryStore_ok (hM:MR P φ A w) (t:TypeId) {m m' s s' x x':Value} (hm:VR φ m m') (hs:VR φ s s') (hx:VR φ x x') :
  OpOk P φ A w (entryStoreA A m s x) ((do Instr.entryStore t m' s' x'; pure .skip:Sem Next).run P w):=by
 cases hm with
 | mapNil=>exact trivial
 | map hr =>
  rename_i r r'
  simp only [entryStoreA]
  cases hn:natA s with
  | none=>exact trivial
  | some b =>
   obtain ⟨k1,rfl⟩:=natA_some hn
   have e1:=VR_int hs
   subst e1
   simp only
   cases hen:entriesA A r with
   | none=>exact trivial
   | some p =>
    obtain ⟨n,sz,d,es',h1,h2,h3⟩:=entries_ok hM hr hen
    simp only
    cases hfb:findBorn b p.1 0 with
    | none=>exact trivial
    | some i =>
     obtain ⟨_,g1⟩:=findBorn_ok h3 b 0 hfb
     simp only [Nat.sub_zero] at g1
     have hold:=old_map hM h1 hen
     simp only [entryStoreB,setMap]
     cases hp:putO A r (.map (modVal p.1 i x) p.2) with
     | none=>exact trivial
     | some A' =>
      obtain ⟨hlim,rfl⟩:=putO_some hp
      obtain ⟨s1,s2⟩:=hM.set (o:=.map (modVal p.1 i x) p.2) (oc:=.map ⟨es'.modify i fun e=>{ e with val:=x' }⟩ p.2) h1 hlim (n':=n) (s':=sz) (d':=d) ⟨_,rfl,modVal_ER' h3 i hx⟩ ⟨rfl,rfl,rfl⟩
      refine ⟨φ,_,s1,s2,.inr ⟨run_u ?_,rfl⟩⟩
      unfold Instr.entryStore
      have hint:(asInt (.int k1 (b:Int))).run P w=.ok (b:Int) w:=rfl
      have g2:(⟨es'⟩:Array MapEntry).findIdx? (fun e=>(e.born:Int) == (b:Int))=some i:=by
       rw [← List.findIdx?_toArray] at g1
       exact g1
      simp only [Sem.run_bind,h2,Result.andThen_ok,hint,g2]
      rw [run_setObj _ hold]
      congr 3
      apply Array.ext'
      simp
 | _=>exact trivial
end Go.Sh
namespace Go.Sh
open Go
variable {P:Program} {φ:Inj} {A:AW} {w:World}
theorem OpOk.cast {y:R} {r r':Result Next} (h:OpOk P φ A w y r) (e:r'=r):OpOk P φ A w y r':=e ▸ h
theorem fnA_ok (hP:NoCount P) (hM:MR P φ A w) {f f':Fn} {c c' args args':List Value} (hf:FnR φ f f') (hc:LR φ c c') (ha:LR φ args args') :
  OpOk P φ A w (fnA P A f c args) ((invoke (.fn f' ⟨c'⟩) ⟨args'⟩).run P w):=by
 rcases hf with ⟨rfl,hy⟩ | ⟨l,l',rfl,rfl,hb⟩
 ·cases f with
  | func f =>
   simp only [fnA,appL_eq]
   have h:=callFn_ok hP hM f (ha.append hc)
   have e:(⟨args'⟩++⟨c'⟩:Array Value)=⟨args'++c'⟩:=by apply Array.ext'; simp
   refine h.cast ?_
   show (callFunc f (⟨args'⟩++⟨c'⟩:Array Value)).run P w=_
   rw [e]
  | yield l=>exact absurd rfl (hy l)
  | _=>exact trivial
 ·exact ⟨rfl,l',args',hb,ha,rfl⟩
theorem callV_ok (hP:NoCount P) (hM:MR P φ A w) {f f':Value} {args args':List Value} (hf:VR φ f f') (ha:LR φ args args') :
  OpOk P φ A w (callV P A f args) ((do let d ← Deferred.ofValue f' ⟨args'⟩; invoke d.target d.args:Sem Next).run P w):=by
 cases hf with
 | func hf hx hy =>
  rename_i f f' x x' y y'
  simp only [callV,appL_eq]
  refine (fnA_ok hP hM hf hy (hx.append ha)).cast ?_
  have e:(⟨x'⟩++⟨args'⟩:Array Value)=⟨x'++args'⟩:=by apply Array.ext'; simp
  simp only [Deferred.ofValue,Sem.run_bind,Sem.run_pure,Result.andThen_ok,e]
 | _=>exact trivial
theorem findM_eq (name:String):∀ l:List Method,findM name l=l.find? (fun m=>m.name == name)
 | []=>rfl
 | m::l=>by
  unfold findM
  rw [List.find?_cons,findM_eq name l]
  cases m.name == name <;> rfl
theorem methA_run {t:TypeId} {name:String} {f:FuncId} (h:methA P t name=some f) (v:Value) (n:Nat) (w:World):(method (n + 1) t v name).run P w=.ok (f,v) w:=by
 unfold methA at h
 cases hi:P.info? t with
 | none=>rw [hi] at h; cases h
 | some i =>
  rw [hi] at h
  simp only at h
  cases hm:findM name i.methods.toList with
  | none=>rw [hm] at h; cases h
  | some m =>
   rw [hm] at h
   simp only [methF] at h
   have hm':i.methods.find? (fun m=>m.name == name)=some m:=by rw [← Array.find?_toList,← findM_eq]; exact hm
   cases hf:m.func with
   | none=>rw [hf] at h; cases h
   | some p =>
    obtain ⟨g,ptr⟩:=p
    rw [hf] at h
    simp only at h
    cases hq:isPtrT P t with
    | none=>rw [hq] at h; cases h
    | some b =>
     rw [hq] at h
     simp only at h
     cases hc:(m.path.toList.isEmpty && (ptr == b)) with
     | false=>rw [hc] at h; cases h
     | true =>
      rw [hc] at h
      simp only [cond_true,Option.some.injEq] at h
      subst h
      rw [Bool.and_eq_true] at hc
      obtain ⟨h1,h2⟩:=hc
      have h1:m.path.toList=[]:=by simpa using h1
      have h2:ptr=b:=by simpa using h2
      subst h2
      have hr:∀ wr,(receiverAt t (.val v) ptr wr).run P w=.ok v w:=by
       intro wr
       unfold isPtrT at hq
       cases hu:P.underlying t with
       | none=>rw [hu] at hq; cases hq
       | some d =>
        rw [hu] at hq
        cases d <;> (simp only [Option.some.injEq] at hq; subst hq; simp [receiverAt,run_underlying' hu,Place.get])
      simp [method,typeInfo,hi,hm',h1,follow,hf,hr]
theorem callM_ok (hP:NoCount P) (hM:MR P φ A w) {v v':Value} (name:String) {args args':List Value} (hv:VR φ v v') (ha:LR φ args args') :
  OpOk P φ A w (callM P A v name args) ((invoke (.fn (.method name) #[]) ⟨v'::args'⟩).run P w):=by
 cases hv with
 | iface t hv =>
  rename_i u u'
  simp only [callM]
  cases hm:methA P t name with
  | none=>exact trivial
  | some f =>
   refine (callFn_ok hP hM f (.cons hv ha)).cast ?_
   have e:(#[u']++(⟨Value.iface t u'::args'⟩:Array Value).extract 1 (Value.iface t u'::args').length:Array Value)=⟨u'::args'⟩:=by apply Array.ext'; simp
   have hmr:=methA_run hm u' (P.types.size + Made.depth - 1)
   have hd:P.types.size + Made.depth - 1 + 1=P.types.size + Made.depth:=by have:Made.depth=Made.depth:=rfl; unfold Made.depth; omega
   rw [hd] at hmr
   simp [invoke,callMethod,hmr]
 | _=>exact trivial
theorem deferV_ok (_hM:MR P φ A w) {f f':Value} {args args':List Value} (hf:VR φ f f') (ha:LR φ args args') :
  OpOk P φ A w (deferV A f args) ((do pure (.defer (← Deferred.ofValue f' ⟨args'⟩)):Sem Next).run P w):=by
 cases hf with
 | func hf hx hy =>
  rename_i f f' x x' y y'
  simp only [deferV,appL_eq]
  have e:(⟨x'⟩++⟨args'⟩:Array Value)=⟨x'++args'⟩:=by apply Array.ext'; simp
  exact ⟨rfl,{ target:=.fn f' ⟨y'⟩,args:=⟨x'++args'⟩ },⟨.fn hf hy,hx.append ha⟩,by simp only [Deferred.ofValue,Sem.run_bind,Sem.run_pure,Result.andThen_ok,e]⟩
 | _=>exact trivial
theorem global_VR (hM:MR P φ A w) {g:Nat} (h:g < P.globals.size):VR φ (.pointer (some ⟨g,0,none⟩)) (.pointer (some ⟨g,0,none⟩)):=by
 rcases hM.globals g h with h1 | ⟨n,s,h1⟩
 ·exact .ptr (.inl h1)
 ·exact .ptr (.inr ⟨g,n,s,0,h1,rfl,rfl,rfl⟩)
theorem evS_ok (hM:MR P φ A w) {n:Nat} {t:Tm} {fr:Frame} (hT:TR φ n t fr.tmps) (x:Operand) (hc:constOk P x=true):VR φ ((evS x).val t) (fr.eval x):=by
 cases x with
 | tmp k=>exact hT.2 k
 | const v=>exact ground_VR 3 v hc
 | global g=>exact global_VR hM (by have h:Nat.blt g P.globals.size=true:=hc; simpa [Nat.blt_eq] using h)
 | func f=>exact .func (.inl ⟨rfl,fun l h=>by cases h⟩) .nil .nil
theorem evL_ok (hM:MR P φ A w) {n:Nat} {t:Tm} {fr:Frame} (hT:TR φ n t fr.tmps):∀ l:List Operand,(∀ x ∈ l,constOk P x=true)→LR φ ((evL l).val t) (l.map fr.eval)
 | [],_=>.nil
 | x::l,h=>.cons (evS_ok hM hT x (h x (List.mem_cons_self ..))) (evL_ok hM hT l fun y hy=>h y (List.mem_cons_of_mem _ hy))
theorem evP_ok (hM:MR P φ A w) {n:Nat} {t:Tm} {fr:Frame} (hT:TR φ n t fr.tmps):∀ l:List (Nat × Operand),(∀ x ∈ l.map (·.2),constOk P x=true)→PR φ ((evP l).val t) (l.map fun p=>(p.1,fr.eval p.2))
 | [],_=>.nil
 | p::l,h=>.cons p.1 (evS_ok hM hT p.2 (h p.2 (List.mem_cons_self ..))) (evP_ok hM hT l fun y hy=>h y (List.mem_cons_of_mem _ hy))
theorem evO_ok (hM:MR P φ A w) {n:Nat} {t:Tm} {fr:Frame} (hT:TR φ n t fr.tmps) (x:Option Operand) (h:∀ y,x=some y→constOk P y=true):OVR φ ((evO x).val t) (x.map fr.eval):=by
 cases x with
 | none=>exact trivial
 | some y=>exact evS_ok hM hT y (h y rfl)
theorem op_ok (hP:NoCount P) (hM:MR P φ A w) {n:Nat} {t:Tm} {fr:Frame} (hT:TR φ n t fr.tmps) (o:Oper) (hc:∀ x ∈ o.op.operands.toList,constOk P x=true) :
  OpOk P φ A w ((opS P o.type o.op).val t A) ((execOp fr.eval o).run P w):=by
 have hS:∀ x,x ∈ o.op.operands.toList→VR φ ((evS x).val t) (fr.eval x):=fun x hx=>evS_ok hM hT x (hc x hx)
 obtain ⟨dst,op,type,pos,after,guard⟩:=o
 simp only at hc hS ⊢
 cases op with
 | move x=>exact OpOk.same hM (hS x (by simp [Op.operands])) rfl
 | assign x=>exact OpOk.same hM (hS x (by simp [Op.operands])) rfl
 | pick c a b=>exact pick_ok hM (hS c (by simp [Op.operands])) (hS a (by simp [Op.operands])) (hS b (by simp [Op.operands]))
 | alloc e=>exact alloc_ok hM e
 | box e x=>exact box_ok hM e (hS x (by simp [Op.operands]))
 | build ty parts =>
  have h:=build_ok hM ty (evP_ok hM hT parts.toList fun x hx=>hc x (by simpa [Op.operands] using hx))
  have e:(⟨parts.toList.map fun p=>(p.1,fr.eval p.2)⟩:Array (Nat × Value))=parts.map fun p=>(p.1,fr.eval p.2):=by apply Array.ext'; simp
  rw [e] at h
  exact h
 | buildSlice ty len parts =>
  have h:=buildSlice_ok hM ty len (evP_ok hM hT parts.toList fun x hx=>hc x (by simpa [Op.operands] using hx))
  have e:(⟨parts.toList.map fun p=>(p.1,fr.eval p.2)⟩:Array (Nat × Value))=parts.map fun p=>(p.1,fr.eval p.2):=by apply Array.ext'; simp
  rw [e] at h
  exact h
 | load ty a=>exact load_ok hM ty (hS a (by simp [Op.operands]))
 | store ty a x=>exact store_ok hM ty (hS a (by simp [Op.operands])) (hS x (by simp [Op.operands]))
 | nilCheck x=>exact nilCheck_ok hM (ρ:=fr.eval) (o:=⟨dst,.nilCheck x,type,pos,after,guard⟩) rfl (hS x (by simp [Op.operands]))
 | binOp op ty x y yt=>exact binW_ok hM op ty x y (hS x (by simp [Op.operands])) (hS y (by simp [Op.operands]))
 | unOp op ty x=>exact vR_ok hM fun v hv=>un_ok op (hS x (by simp [Op.operands])) hv
 | convert s d x=>exact convert_ok hM s d (hS x (by simp [Op.operands]))
 | makeInterface ty x=>exact iface_ok hM ty (hS x (by simp [Op.operands]))
 | makeFunc fn a b =>
  have ha:=evL_ok hM hT a.toList fun x hx=>hc x (by simp [Op.operands]; exact .inl (by simpa using hx))
  have hb:=evL_ok hM hT b.toList fun x hx=>hc x (by simp [Op.operands]; exact .inr (by simpa using hx))
  have ea:(⟨a.toList.map fr.eval⟩:Array Value)=a.map fr.eval:=by apply Array.ext'; simp
  have eb:(⟨b.toList.map fr.eval⟩:Array Value)=b.map fr.eval:=by apply Array.ext'; simp
  have key:(∀ l,fn ≠ .yield l)→OpOk P φ A w (.val (.func fn ⟨(evL a.toList).val t⟩ ⟨(evL b.toList).val t⟩) A) ((do pure (.value (← Instr.makeFunc fn (a.map fr.eval) (b.map fr.eval))):Sem Next).run P w):=by
   intro h
   have:=makeFunc_ok hM (.inl ⟨rfl,h⟩:FnR φ fn fn) ha hb
   rw [ea,eb] at this
   exact this
  cases fn with
  | yield l=>exact trivial
  | _=>exact key (fun l h=>by cases h)
 | makeMap ty r=>cases r with
  | none=>exact makeMap_ok hM ty
  | some x=>exact trivial
 | makeSlice ty l c=>exact makeSlice_ok hM ty (hS l (by simp [Op.operands])) (hS c (by simp [Op.operands]))
 | slice ty x lo hi mx =>
  exact slice_ok hM ty (hS x (by simp [Op.operands])) (evO_ok hM hT lo fun y hy=>hc y (by subst hy; simp [Op.operands])) (evO_ok hM hT hi fun y hy=>hc y (by subst hy; simp [Op.operands])) (evO_ok hM hT mx fun y hy=>hc y (by subst hy; simp [Op.operands]))
 | fieldAddr s x f=>exact fieldAddr_ok hM s f (hS x (by simp [Op.operands]))
 | field ty x f=>exact field_ok hM ty f (hS x (by simp [Op.operands]))
 | indexAddr ty x i=>exact indexAddr_ok hM ty (hS x (by simp [Op.operands])) (hS i (by simp [Op.operands]))
 | index ty x i=>exact index_ok hM ty (hS x (by simp [Op.operands])) (hS i (by simp [Op.operands]))
 | lookup ty x k ok=>exact lookup_ok hM ty ok (hS x (by simp [Op.operands])) (hS k (by simp [Op.operands]))
 | mapUpdate ty m k x=>exact mapUpdate_ok hM ty (hS m (by simp [Op.operands])) (hS k (by simp [Op.operands])) (hS x (by simp [Op.operands]))
 | insert ty m k x=>exact mapUpdate_ok hM ty (hS m (by simp [Op.operands])) (hS k (by simp [Op.operands])) (hS x (by simp [Op.operands]))
 | mapEntry ty m k=>exact mapEntry_ok hM ty (hS m (by simp [Op.operands])) (hS k (by simp [Op.operands]))
 | entryStore ty m s x=>exact entryStore_ok hM ty (hS m (by simp [Op.operands])) (hS s (by simp [Op.operands])) (hS x (by simp [Op.operands]))
 | range ty x=>exact range_ok hM ty (hS x (by simp [Op.operands]))
 | next it str=>exact next_ok hM str type (hS it (by simp [Op.operands]))
 | entry it=>exact entry_ok hM (hS it (by simp [Op.operands]))
 | typeAssert x xt ty ok=>exact typeAssert_ok hM xt ty ok (hS x (by simp [Op.operands]))
 | extract x i=>exact extract_ok hM i (hS x (by simp [Op.operands]))
 | panic x=>exact panicB_ok hM (hS x (by simp [Op.operands]))
 | call c =>
  obtain ⟨callee,args,ats⟩:=c
  have ea:(⟨args.toList.map fr.eval⟩:Array Value)=args.map fr.eval:=by apply Array.ext'; simp
  cases callee with
  | builtin b =>
   have ha:=evL_ok hM hT args.toList fun x hx=>hc x (by simp [Op.operands,Call.operands]; first | exact .inr (by simpa using hx) | simpa using hx)
   have h:=builtin_ok hM b ats type (args.map fun | .const _=>true | _=>false) ha
   rw [ea] at h
   exact h
  | invoke recv name =>
   have ha:=evL_ok hM hT args.toList fun x hx=>hc x (by simp [Op.operands,Call.operands]; first | exact .inr (by simpa using hx) | simpa using hx)
   have h:=callM_ok hP hM name (hS recv (by simp [Op.operands,Call.operands])) ha
   have e:(⟨fr.eval recv::args.toList.map fr.eval⟩:Array Value)=#[fr.eval recv]++args.map fr.eval:=by apply Array.ext'; simp
   rw [e] at h
   exact h
  | value f =>
   have ha:=evL_ok hM hT args.toList fun x hx=>hc x (by simp [Op.operands,Call.operands]; first | exact .inr (by simpa using hx) | simpa using hx)
   have h:=callV_ok hP hM (hS f (by simp [Op.operands,Call.operands])) ha
   rw [ea] at h
   exact h
 | defer c =>
  obtain ⟨callee,args,ats⟩:=c
  have ea:(⟨args.toList.map fr.eval⟩:Array Value)=args.map fr.eval:=by apply Array.ext'; simp
  cases callee with
  | value f =>
   have ha:=evL_ok hM hT args.toList fun x hx=>hc x (by simp [Op.operands,Call.operands]; first | exact .inr (by simpa using hx) | simpa using hx)
   have h:=deferV_ok hM (hS f (by simp [Op.operands,Call.operands])) ha
   rw [ea] at h
   exact h
  | _=>exact trivial
 | _=>exact trivial
end Go.Sh
namespace Go.Sh
open Go
variable {P:Program} {φ:Inj} {A:AW} {w:World}
structure Av where
 fn:FuncId
 tmps:Array Value
 defers:List Deferred
 kind:CallKind
 roundOf:Option Nat
def Av.at (a:Av) (k:List Item):Frame:={ fn:=a.fn,tmps:=a.tmps,todo:=k,defers:=a.defers,mode:=.run,kind:=a.kind,roundOf:=a.roundOf }
def Av.pan (a:Av) (k:List Item) (v:Value):Frame:={ a.at k with mode:=.panicking [{ v,recovered:=false }] }
def Av.put (a:Av) (d:Option Tmp) (v:Value):Av :=
 match d with
 | some d=>{ a with tmps:=a.tmps.setIfInBounds d v }
 | none=>a
structure Av.Like (a a':Av):Prop where
 fn:a'.fn=a.fn
 kind:a'.kind=a.kind
 round:a'.roundOf=a.roundOf
theorem Av.Like.refl (a:Av):a.Like a:=⟨rfl,rfl,rfl⟩
theorem Av.Like.trans {a b c:Av} (h:a.Like b) (k:b.Like c):a.Like c:=⟨k.fn.trans h.fn,k.kind.trans h.kind,k.round.trans h.round⟩
theorem Av.like_put (a:Av) (d:Option Tmp) (v:Value):a.Like (a.put d v):=by cases d <;> exact ⟨rfl,rfl,rfl⟩
def Loose (φ:Inj) (w:World) (r:Nat):Prop:=(∀ b n s d,φ b ≠ some (.at_ r n s d))∧w.heap[r]?=some (.deferred (some []))
theorem Loose.ext {φ':Inj} {A':AW} {w':World} {r:Nat} (h:Loose φ w r) (e:Ext φ A w φ' A' w'):Loose φ' w' r:=by
 have hlt:=lt_of_heap h.2
 refine ⟨fun b n s d hb=>?_,?_⟩
 ·rcases e.new b r n s d hb with h1 | ⟨_,h1 | ⟨b0,n0,s0,d0,h1,_⟩⟩
  ·exact h.1 _ _ _ _ h1
  ·omega
  ·exact h.1 _ _ _ _ h1
 ·rw [e.frame r hlt fun b n s d hb=>absurd hb (h.1 b n s d)]
  exact h.2
inductive DsR (φ:Inj):List Deferred→List Deferred→List Nat→Prop
 | nil:DsR φ [] [] []
 | cons {d d':Deferred} {ds ds':List Deferred} {rs:List Nat} (h:DR φ d d') (k:DsR φ ds ds' rs):DsR φ (d::ds) (d'::ds') rs
 | mark (r:Nat) {ds ds':List Deferred} {rs:List Nat} (k:DsR φ ds ds' rs):DsR φ ds ({ target:=.collected r,args:=#[] }::ds') (r::rs)
theorem TargetR.mono {φ φ':Inj} {t t':Target} (h:TargetR φ t t') (hle:φ.le φ'):TargetR φ' t t':=by
 cases h with
 | fn hf hc=>exact .fn (hf.mono hle) (hc.mono hle)
theorem DR.mono {φ φ':Inj} {d d':Deferred} (h:DR φ d d') (hle:φ.le φ'):DR φ' d d':=⟨h.target.mono hle,h.args.mono hle⟩
theorem DsR.mono {φ φ':Inj} {ds ds':List Deferred} {rs:List Nat} (h:DsR φ ds ds' rs) (hle:φ.le φ'):DsR φ' ds ds' rs:=by
 induction h with
 | nil=>exact .nil
 | cons h _ ih=>exact .cons (h.mono hle) ih
 | mark r _ ih=>exact .mark r ih
structure Held (φ:Inj) (w:World) (n lo:Nat) (t:Tm) (ds:List Deferred) (a:Av):Prop where
 tmps:TR φ n t a.tmps
 defers:∃ rs,DsR φ ds a.defers rs∧rs.Nodup∧(∀ r ∈ rs,lo≤r∧Loose φ w r)∧(a.roundOf ≠ none→rs=[])
theorem Held.ext {φ':Inj} {A':AW} {w':World} {n lo:Nat} {t:Tm} {ds:List Deferred} {a:Av} (h:Held φ w n lo t ds a) (e:Ext φ A w φ' A' w'):Held φ' w' n lo t ds a:=by
 obtain ⟨h1,rs,h2,h3,h4,h5⟩:=h
 exact ⟨h1.mono e.le,rs,h2.mono e.le,h3,fun r hr=>⟨(h4 r hr).1,(h4 r hr).2.ext e⟩,h5⟩
theorem Held.put {n lo:Nat} {t:Tm} {ds:List Deferred} {a:Av} (h:Held φ w n lo t ds a) {d:Option Tmp} (hd:dstOk n d=true) {v v':Value} (hv:VR φ v v'):Held φ w n lo ((putDst d).val v t) ds (a.put d v'):=by
 obtain ⟨h1,h2⟩:=h
 cases d with
 | none=>exact ⟨h1,h2⟩
 | some d =>
  simp only [dstOk,Bool.and_eq_true] at hd
  have e1:d < n:=by simpa [Nat.blt_eq] using hd.1
  have e2:n < 60000 + 1:=by
   have:=hd.2
   first | exact Nat.lt_succ_of_le (Nat.le_of_ble_eq_true this) | (have:n < 60000:=by simpa [Nat.blt_eq] using this; omega)
  exact ⟨h1.set e1 (by omega) hv,h2⟩
def TRw (φ:Inj) (t:Tm) (a:Array Value):Prop:=∀ i,tget t i=junk∨VR φ (tget t i) (a.getD i undef)
structure HeldP (φ:Inj) (w:World) (lo:Nat) (t:Tm) (ds:List Deferred) (a:Av):Prop where
 tmps:TRw φ t a.tmps
 defers:∃ rs,DsR φ ds a.defers rs∧rs.Nodup∧(∀ r ∈ rs,lo≤r∧Loose φ w r)∧(a.roundOf ≠ none→rs=[])
theorem Held.weak {n lo:Nat} {t:Tm} {ds:List Deferred} {a:Av} (h:Held φ w n lo t ds a):HeldP φ w lo t ds a:=⟨fun i=>.inr (h.tmps.2 i),h.defers⟩
def HeldX (ex:Ex) (φ:Inj) (w:World) (n lo:Nat) (t:Tm) (ds:List Deferred) (a:Av):Prop:=match ex with | .panic _=>HeldP φ w lo t ds a | _=>Held φ w n lo t ds a
theorem HeldX.weak {ex:Ex} {n lo:Nat} {t:Tm} {ds:List Deferred} {a:Av} (h:HeldX ex φ w n lo t ds a):HeldP φ w lo t ds a:=by
 cases ex with
 | panic v=>exact h
 | _=>exact Held.weak h
inductive CtxR (φ:Inj):Ctx→CallKind→Option Nat→List Frame→Prop
 | none (cs:List Frame):CtxR φ .none .normal none cs
 | round (k:CallKind) (l:Nat) (cs:List Frame):CtxR φ .round k (some l) cs
 | ret (c:Frame) (cs:List Frame) (h:c.mode=.returning):CtxR φ .ret .deferred none (c::cs)
 | pan (c:Frame) (cs:List Frame) {v v':Value} (b:Bool) (h:c.mode=.panicking [{ v:=v',recovered:=b }]) (hv:VR φ v v'):CtxR φ (.pan v b) .deferred none (c::cs)
theorem CtxR.mono {φ φ':Inj} {x:Ctx} {k:CallKind} {r:Option Nat} {cs:List Frame} (h:CtxR φ x k r cs) (hle:φ.le φ'):CtxR φ' x k r cs:=by
 cases h with
 | none=>exact .none _
 | round=>exact .round _ _ _
 | ret c cs h=>exact .ret c cs h
 | pan c cs b h hv=>exact .pan c cs b h (hv.mono hle)
def isPan (x:Ctx):Bool:=match x with | .pan ..=>true | _=>false
inductive CsR:Bool→List Frame→List Frame→Prop
 | same (p:Bool) (cs:List Frame):CsR p cs cs
 | mode (c:Frame) (m:FrameMode) (cs:List Frame):CsR true (c::cs) ({ c with mode:=m }::cs)
theorem CsR.trans {p:Bool} {a b c:List Frame} (h:CsR p a b) (k:CsR p b c):CsR p a c:=by
 cases h with
 | same=>exact k
 | mode c m cs =>
  cases k with
  | same=>exact .mode c m cs
  | mode _ m' _=>exact .mode c m' cs
theorem CsR.eq {a b:List Frame} (h:CsR false a b):b=a:=by cases h; rfl
def Plain (k:List Item):Prop:=∀ d wr r s j,k ≠ .call d wr r s::j
def Where (a:Av) (k:List Item) (ex:Ex) (φ:Inj) (fr:Frame):Prop :=
 match ex with
 | .normal=>fr=a.at k
 | .exit id=>∃ j,fr=a.at (.code (.exit id)::j)∧exitTo id j=exitTo id k
 | .ret=>∃ j,fr=a.at (.code .ret::j)
 | .panic v=>∃ j v',fr=a.pan j v'∧VR φ v v'∧Plain j
def RcOk (P:Program) (n lo:Nat) (φ:Inj) (A:AW) (w:World) (p:Bool) (a:Av) (cs:List Frame) (start:Frame) (k:List Item) (y:RC):Prop :=
 match y with
 | .fail=>True
 | .ok ex t ds A' x'=>∃ φ' w' a' cs' fr',MR P φ' A' w'∧Ext φ A w φ' A' w'∧HeldX ex φ' w' n lo t ds a'∧a.Like a'∧CtxR φ' x' a.kind a.roundOf cs'∧(CsR p cs cs'∧isPan x'=p) ∧
   Where a' k ex φ' fr'∧Steps P (lone start cs w) (lone fr' cs' w')
def DoesOk (P:Program) (n:Nat) (pre:List Item) (F:CodeF):Prop :=
 ∀ (φ:Inj) (A:AW) (w:World) (lo:Nat) (t:Tm) (ds:List Deferred) (x:Ctx) (a:Av) (cs:List Frame) (k:List Item),MR P φ A w→Held φ w n lo t ds a→lo≤w.heap.size→CtxR φ x a.kind a.roundOf cs →
  RcOk P n lo φ A w (isPan x) a cs (a.at (pre++k)) k (F t ds A x)
theorem RcOk.steps {n lo:Nat} {p:Bool} {a:Av} {cs:List Frame} {s s':Frame} {k:List Item} {y:RC} (h:Steps P (lone s cs w) (lone s' cs w)) (h':RcOk P n lo φ A w p a cs s' k y):RcOk P n lo φ A w p a cs s k y:=by
 cases y with
 | fail=>exact trivial
 | ok ex t ds A' x' =>
  obtain ⟨φ',w',a',cs',fr',h1,h2,h3,h4,h5,h6,h7,h8⟩:=h'
  exact ⟨φ',w',a',cs',fr',h1,h2,h3,h4,h5,h6,h7,h.trans h8⟩
theorem RcOk.after {n lo:Nat} {p:Bool} {φ1:Inj} {A1:AW} {w1:World} {a a1:Av} {cs cs1:List Frame} {s s1:Frame} {k:List Item} {y:RC} (he:Ext φ A w φ1 A1 w1) (hl:a.Like a1) (hc:CsR p cs cs1) (h:Steps P (lone s cs w) (lone s1 cs1 w1))
  (h':RcOk P n lo φ1 A1 w1 p a1 cs1 s1 k y):RcOk P n lo φ A w p a cs s k y:=by
 cases y with
 | fail=>exact trivial
 | ok ex t ds A' x' =>
  obtain ⟨φ',w',a',cs',fr',h1,h2,h3,h4,h5,h6,h7,h8⟩:=h'
  exact ⟨φ',w',a',cs',fr',h1,he.trans h2,h3,hl.trans h4,by rw [← hl.kind,← hl.round]; exact h5,⟨hc.trans h6.1,h6.2⟩,h7,h.trans h8⟩
theorem go1 {fr fr':Frame} {cs cs':List Frame} {w w':World}
  (h:(stepG P true { frame:=fr,callers:=cs,status:=.running,dying:=none } w).bare=.go { frame:=fr',callers:=cs',status:=.running,dying:=none } w'):Steps P (lone fr cs w) (lone fr' cs' w') :=
 Steps.one (step_lone_go h)
theorem skip_ok (n:Nat):DoesOk P n [.code .skip] fun t ds w x=>.ok .normal t ds w x:=fun φ A w lo t ds x a cs k hM hH _ hx =>
 ⟨φ,w,a,cs,a.at k,hM,Ext.refl _ _ _,hH,.refl _,hx,⟨.same _ _,rfl⟩,rfl,go1 (by simp [stepG,stepG.exec,Av.at])⟩
theorem label_ok (n l:Nat):DoesOk P n [.code (.label l)] fun t ds w x=>.ok .normal t ds w x:=fun φ A w lo t ds x a cs k hM hH _ hx =>
 ⟨φ,w,a,cs,a.at k,hM,Ext.refl _ _ _,hH,.refl _,hx,⟨.same _ _,rfl⟩,rfl,go1 (by simp [stepG,stepG.exec,Av.at])⟩
theorem exit_ok (n id:Nat):DoesOk P n [.code (.exit id)] fun t ds w x=>.ok (.exit id) t ds w x:=fun φ A w lo t ds x a cs k hM hH _ hx =>
 ⟨φ,w,a,cs,_,hM,Ext.refl _ _ _,hH,.refl _,hx,⟨.same _ _,rfl⟩,⟨k,rfl,rfl⟩,.refl _ _⟩
theorem ret_ok (n:Nat):DoesOk P n [.code .ret] fun t ds w x=>.ok .ret t ds w x:=fun φ A w lo t ds x a cs k hM hH _ hx =>
 ⟨φ,w,a,cs,_,hM,Ext.refl _ _ _,hH,.refl _,hx,⟨.same _ _,rfl⟩,⟨k,rfl⟩,.refl _ _⟩
theorem seqK_ok {n:Nat} {p q:List Item} {F G:CodeF} (hp:∀ id k,exitTo id (q++k)=exitTo id k) (hF:DoesOk P n p F) (hG:DoesOk P n q G):DoesOk P n (p++q) fun t ds w x=>seqK G (F t ds w x):=by
 intro φ A w lo t ds x a cs k hM hH hlo hx
 have h:=hF φ A w lo t ds x a cs (q++k) hM hH hlo hx
 rw [← List.append_assoc] at h
 show RcOk P n lo φ A w (isPan x) a cs (a.at (p++q++k)) k (seqK G (F t ds A x))
 cases hy:F t ds A x with
 | fail=>exact trivial
 | ok ex t1 ds1 A1 x1 =>
  rw [hy] at h
  obtain ⟨φ1,w1,a1,cs1,fr1,h1,h2,h3,h4,h5,h6,h7,h8⟩:=h
  cases ex with
  | normal =>
   have h7:fr1=a1.at (q++k):=h7
   subst h7
   exact RcOk.after h2 h4 h6.1 h8 (h6.2 ▸ hG φ1 A1 w1 lo t1 ds1 x1 a1 cs1 k h1 h3 (Nat.le_trans hlo h2.size) (by rw [h4.kind,h4.round]; exact h5))
  | exit id =>
   obtain ⟨j,h9,h10⟩:=h7
   exact ⟨φ1,w1,a1,cs1,fr1,h1,h2,h3,h4,h5,h6,⟨j,h9,by rw [h10,hp]⟩,h8⟩
  | ret=>exact ⟨φ1,w1,a1,cs1,fr1,h1,h2,h3,h4,h5,h6,h7,h8⟩
  | panic v=>exact ⟨φ1,w1,a1,cs1,fr1,h1,h2,h3,h4,h5,h6,h7,h8⟩
theorem DoesOk.pre {n:Nat} {p q:List Item} {F:CodeF} (h:∀ (a:Av) (cs:List Frame) (k:List Item) (w:World),Steps P (lone (a.at (p++k)) cs w) (lone (a.at (q++k)) cs w)) (hF:DoesOk P n q F):DoesOk P n p F :=
 fun φ A w lo t ds x a cs k hM hH hlo hx=>RcOk.steps (h a cs k w) (hF φ A w lo t ds x a cs k hM hH hlo hx)
theorem seq_ok {n:Nat} {a b:Code} {F G:CodeF} (hF:DoesOk P n [.code a] F) (hG:DoesOk P n [.code b] G):DoesOk P n [.code (.seq a b)] fun t ds w x=>seqK G (F t ds w x) :=
 DoesOk.pre (q:=[.code a]++[.code b]) (fun a cs k w=>go1 (by simp [stepG,stepG.exec,Av.at])) (seqK_ok (fun _ _=>rfl) hF hG)
theorem scope_ok {n:Nat} {c:Code} {F:CodeF} (hF:DoesOk P n [.code c] F):DoesOk P n [.code (.scope c)] F:=by
 have h1:DoesOk P n [.inScope c] fun t ds w x=>.ok .normal t ds w x:=fun φ A w lo t ds x a cs k hM hH _ hx =>
  ⟨φ,w,a,cs,a.at k,hM,Ext.refl _ _ _,hH,.refl _,hx,⟨.same _ _,rfl⟩,rfl,go1 (by simp [stepG,stepG.exec,Av.at])⟩
 have h2:=seqK_ok (fun _ _=>rfl) hF h1
 have e:(fun t ds w x=>seqK (fun t ds w x=>.ok .normal t ds w x) (F t ds w x))=F:=by
  funext t ds w x
  cases F t ds w x with
  | fail=>rfl
  | ok ex t ds w x=>cases ex <;> rfl
 rw [e] at h2
 exact DoesOk.pre (fun a cs k w=>go1 (by simp [stepG,stepG.exec,Av.at])) h2
theorem loopN_ok {n:Nat} {c:Code} {F:CodeF} (hF:DoesOk P n [.code c] F):∀ m,DoesOk P n [.inLoop c] (loopN F m)
 | 0=>fun φ A w lo t ds x a cs k _ _ _ _=>trivial
 | m + 1=>DoesOk.pre (q:=[.code c]++[.inLoop c]) (fun a cs k w=>go1 (by simp [stepG,stepG.exec,Av.at])) (seqK_ok (fun _ _=>rfl) hF (loopN_ok hF m))
theorem loop_ok {n:Nat} {c:Code} {F:CodeF} (hF:DoesOk P n [.code c] F) (m:Nat):DoesOk P n [.code (.loop c)] (loopN F m):=by
 cases m with
 | zero=>exact fun φ A w lo t ds x a cs k _ _ _ _=>trivial
 | succ m=>exact DoesOk.pre (q:=[.code c]++[.inLoop c]) (fun a cs k w=>go1 (by simp [stepG,stepG.exec,Av.at])) (seqK_ok (fun _ _=>rfl) hF (loopN_ok hF m))
theorem block_ok {n id:Nat} {c:Code} {F:CodeF} (hF:DoesOk P n [.code c] F):DoesOk P n [.code (.block id c)] fun t ds w x=>blockK id (F t ds w x):=by
 intro φ A w lo t ds x a cs k hM hH hlo hx
 have h:=hF φ A w lo t ds x a cs (.inBlock id::k) hM hH hlo hx
 refine RcOk.steps (s':=a.at ([.code c]++.inBlock id::k)) (go1 (by simp [stepG,stepG.exec,Av.at])) ?_
 show RcOk P n lo φ A w (isPan x) a cs (a.at ([.code c]++.inBlock id::k)) k (blockK id (F t ds A x))
 cases hy:F t ds A x with
 | fail=>exact trivial
 | ok ex t1 ds1 A1 x1 =>
  rw [hy] at h
  obtain ⟨φ1,w1,a1,cs1,fr1,h1,h2,h3,h4,h5,h6,h7,h8⟩:=h
  cases ex with
  | normal =>
   have h7:fr1=a1.at (.inBlock id::k):=h7
   subst h7
   exact ⟨φ1,w1,a1,cs1,a1.at k,h1,h2,h3,h4,h5,h6,rfl,h8.trans (go1 (by simp [stepG,stepG.exec,Av.at]))⟩
  | exit i =>
   obtain ⟨j,h9,h10⟩:=h7
   subst h9
   simp only [blockK]
   cases hb:Nat.beq i id with
   | true =>
    have:=Nat.eq_of_beq_eq_true hb
    subst this
    have h11:exitTo i j=some k:=by rw [h10]; simp [exitTo]
    exact ⟨φ1,w1,a1,cs1,a1.at k,h1,h2,h3,h4,h5,h6,rfl,h8.trans (go1 (by simp [stepG,stepG.exec,Av.at,h11]))⟩
   | false =>
    have hne:¬ id=i:=by rintro rfl; simp at hb
    exact ⟨φ1,w1,a1,cs1,_,h1,h2,h3,h4,h5,h6,⟨j,rfl,by rw [h10]; simp [exitTo,hne]⟩,h8⟩
  | ret=>exact ⟨φ1,w1,a1,cs1,fr1,h1,h2,h3,h4,h5,h6,h7,h8⟩
  | panic v=>exact ⟨φ1,w1,a1,cs1,fr1,h1,h2,h3,h4,h5,h6,h7,h8⟩
theorem cond_ok {n:Nat} {c:Operand} {b d:Code} {F G:CodeF} (hc:constOk P c=true) (hF:DoesOk P n [.code b] F) (hG:DoesOk P n [.code d] G):DoesOk P n [.code (.cond c b d)] fun t ds w x=>condK F G t ds w x ((evS c).val t):=by
 intro φ A w lo t ds x a cs k hM hH hlo hx
 have he:=evS_ok hM (fr:=a.at ([.code (.cond c b d)]++k)) hH.tmps c hc
 show RcOk P n lo φ A w (isPan x) a cs (a.at ([.code (.cond c b d)]++k)) k (condK F G t ds A x ((evS c).val t))
 cases hv:(evS c).val t with
 | bool bb =>
  rw [hv] at he
  have he:=VR_bool he
  have hst:Steps P (lone (a.at ([.code (.cond c b d)]++k)) cs w) (lone (a.at ([.code (if bb then b else d)]++k)) cs w):=by
   refine go1 ?_
   simp only [Av.at,List.cons_append,List.nil_append] at he
   simp [stepG,stepG.exec,Av.at,he]
  refine RcOk.steps hst ?_
  cases bb with
  | true=>exact hF φ A w lo t ds x a cs k hM hH hlo hx
  | false=>exact hG φ A w lo t ds x a cs k hM hH hlo hx
 | _=>exact trivial
end Go.Sh
namespace Go.Sh
open Go
variable {P:Program} {φ:Inj} {A:AW} {w:World}
def OutOk (P:Program) (f:FuncId) (kind:CallKind) (φ:Inj) (w:World) (fr:Frame) (o:Out):Prop :=
 fr.fn=f∧fr.kind=kind∧fr.defers=[]∧∃ fn,P.funcs[f]?=some fn ∧
  match o with
  | .ret v=>fr.mode=.returning∧∃ v',VR φ v v'∧(results fn fr.tmps).run P w=.ok v' w
  | .panic v=>∃ v',fr.mode=.panicking [{ v:=v',recovered:=false }]∧VR φ v v'
def CallOk (P:Program) (f:FuncId) (F:List Value→AW→Ctx→RO):Prop :=
 ∀ (φ:Inj) (A:AW) (w:World) (args args':List Value) (x:Ctx) (kind:CallKind) (cs:List Frame),MR P φ A w→LR φ args args'→CtxR φ x kind none cs →
  match F args A x with
  | .fail=>True
  | .ok o A' x'=>∃ φ' w' cs' fr',MR P φ' A' w'∧Ext φ A w φ' A' w'∧CtxR φ' x' kind none cs'∧(CsR (isPan x) cs cs'∧isPan x'=isPan x)∧OutOk P f kind φ' w' fr' o ∧
    Steps P (lone (Frame.enter P f ⟨args'⟩ kind) cs w) (lone fr' cs' w')
structure RecOk (P:Program) (r:Rec):Prop where
 call:∀ f,CallOk P f (r.call f)
 code:∀ n c,DoesOk P n [.code c] (r.code n c)
theorem call_back {r:Rec} (hR:RecOk P r) (hM:MR P φ A w) (f:FuncId) {args args':List Value} (ha:LR φ args args') (fr:Frame) (cs:List Frame) :
  match r.call f args A .none with
  | .fail=>True
  | .ok (.ret v) A' _=>∃ φ' w' v',MR P φ' A' w'∧Ext φ A w φ' A' w'∧VR φ' v v'∧Steps P (lone (Frame.enter P f ⟨args'⟩ .normal) (fr::cs) w) (lone (fr.finish v') cs w')
  | .ok (.panic v) A' _=>∃ φ' w' v',MR P φ' A' w'∧Ext φ A w φ' A' w'∧VR φ' v v'∧Steps P (lone (Frame.enter P f ⟨args'⟩ .normal) (fr::cs) w) (lone (fr.raise [{ v:=v',recovered:=false }]) cs w'):=by
 have h:=hR.call f φ A w args args' .none .normal (fr::cs) hM ha (.none _)
 cases hy:r.call f args A .none with
 | fail=>exact trivial
 | ok o A' x' =>
  rw [hy] at h
  obtain ⟨φ',w',cs',fr',h1,h2,h3,h4,h5,h6⟩:=h
  have hcs:cs'=fr::cs:=h4.1.eq
  subst hcs
  obtain ⟨g1,g2,g3,fn,g4,g5⟩:=h5
  cases o with
  | ret v =>
   obtain ⟨g6,v',g7,g8⟩:=g5
   refine ⟨φ',w',v',h1,h2,g7,h6.trans (go1 ?_)⟩
   simp [stepG,unwind,doReturn,g1,g2,g3,g4,g6,g8]
  | panic v =>
   obtain ⟨v',g6,g7⟩:=g5
   refine ⟨φ',w',v',h1,h2,g7,h6.trans (go1 ?_)⟩
   simp [stepG,unwind,Frame.catches,g1,g3,g4,g6]
theorem DsR.none {ds':List Deferred} (h:DsR φ [] ds' []):ds'=[]:=by cases h; rfl
theorem loopAt_some {l:Nat} {lp:ALoop} (h:loopAt A l=some lp):A.heap.get l=some (.loop lp):=by
 unfold loopAt at h
 cases hg:A.heap.get l with
 | none=>rw [hg] at h; cases h
 | some o =>
  rw [hg] at h
  cases o with
  | loop lp'=>cases h; rfl
  | _=>cases h
theorem loop_there (hM:MR P φ A w) {l l':Nat} (hl:BlkR φ l l') {lp:ALoop} (h:loopAt A l=some lp):∃ n s d L,φ l=some (.at_ l' n s d)∧w.heap[l']?=some (.loop L)∧LoopR φ lp L:=by
 obtain ⟨n,s,d,oc,h1,h2,L,rfl,h3⟩:=hM.objB hl (loopAt_some h)
 exact ⟨n,s,d,L,h1,h2,h3⟩
theorem run_getLoop {l:Nat} {L:Loop} (h:w.heap[l]?=some (.loop L)):(Instr.getLoop l).run P w=.ok L w:=by
 simp [Instr.getLoop,run_getObj h (by intro a b c h; cases h)]
theorem run_setLoop {l:Nat} {L:Loop} (h:w.heap[l]?=some (.loop L)) (o:Obj):(setObj l o).run P w=.ok () (setBlk w l o):=by
 unfold setObj
 simp only [Sem.run,h]
 rfl
theorem setParams_ok {n:Nat}:∀ {ps:List Tmp} {args args':List Value} {t:Tm} {a:Array Value},(∀ d ∈ ps,dstOk n (some d)=true)→LR φ args args'→TR φ n t a →
  TR φ n (setParams ps args t) ((ps.zip args').foldl (fun tmps (p:Tmp × Value)=>tmps.setIfInBounds p.1 p.2) a)
 | [],_,_,t,a,_,_,h=>by simpa [setParams] using h
 | p::ps,_,_,t,a,_,.nil,h=>by simpa [setParams] using h
 | p::ps,_,_,t,a,hd,.cons hv k,h=>by
  have h1:=hd p (List.mem_cons_self ..)
  simp only [dstOk,Bool.and_eq_true] at h1
  have e1:p < n:=by simpa [Nat.blt_eq] using h1.1
  have e2:n≤60000:=Nat.le_of_ble_eq_true h1.2
  simp only [setParams,List.zip_cons_cons,List.foldl_cons]
  exact setParams_ok (fun d hd'=>hd d (List.mem_cons_of_mem _ hd')) k (h.set e1 e2 hv)
theorem yieldG_ok {r:Rec} (hR:RecOk P r) {l l' n:Nat} (hl:BlkR φ l l') {body:Code} {lo:Nat} {t:Tm} {ds:List Deferred} {a:Av} {cs:List Frame} {k:List Item} (hM:MR P φ A w) (hH:Held φ w n lo t ds a) (hlo:lo≤w.heap.size)
  (hr:a.roundOf=some l'):RcOk P n lo φ A w false a cs (a.at (.beginRound::.code body::k)) k (yieldG r l n body t ds A .round):=by
 unfold yieldG
 cases hlp:loopAt A l with
 | none=>exact trivial
 | some lp =>
  simp only
  cases hrd:isReady lp.state with
  | false=>exact trivial
  | true =>
   obtain ⟨nn,s,d,L,h1,h2,h3⟩:=loop_there hM hl hlp
   have hst:L.state=.ready:=by
    rw [h3.state]
    unfold isReady at hrd
    split at hrd
    ·rename_i hs; exact hs
    ·cases hrd
   simp only [cond_true]
   cases hp:putO A l (busyA lp) with
   | none=>exact trivial
   | some A1 =>
    obtain ⟨hlim,rfl⟩:=putO_some hp
    obtain ⟨s1,s2⟩:=hM.set (o:=busyA lp) (oc:=.loop { L with state:=.busy }) h1 hlim (n':=nn) (s':=s) (d':=d) ⟨_,rfl,⟨rfl,h3.pending,h3.params,h3.assign,h3.body,h3.tmps,h3.dst⟩⟩ ⟨rfl,rfl,rfl⟩
    have hstep:Steps P (lone (a.at (.beginRound::.code body::k)) cs w) (lone (a.at (.code body::k)) cs (setBlk w l' (.loop { L with state:=.busy }))):=by
     refine go1 ?_
     have hb:(Instr.beginRound l').run P w=.ok () (setBlk w l' (.loop { L with state:=.busy })):=by
      simp [Instr.beginRound,run_getLoop h2,run_setLoop h2,hst]
     simp [stepG,stepG.exec,stepG.apply,Av.at,hr,hb,Frame.finish]
    refine RcOk.after s2 (.refl a) (.same _ _) hstep ?_
    exact hR.code n body _ _ _ lo t ds .round a cs k s1 (hH.ext s2) (by simpa [setBlk] using hlo) (by rw [hr]; exact .round _ _ _)
theorem yield_ok {r:Rec} (hR:RecOk P r) (hM:MR P φ A w) {l l':Nat} (hl:BlkR φ l l') {args args':List Value} (ha:LR φ args args') (fr:Frame) (cs:List Frame) :
  match yieldA r l args A with
  | .fail=>True
  | .val b A'=>∃ fn tmps assign body φ' w',(Instr.yield l' ⟨args'⟩).run P w=.ok (.round l' fn tmps assign body) w∧MR P φ' A' w'∧Ext φ A w φ' A' w' ∧
    Steps P (lone (Frame.round l' fn tmps assign body .normal) (fr::cs) w) (lone (fr.finish (.bool b)) cs w')
  | .panic v A'=>∃ fn tmps assign body φ' w' v',(Instr.yield l' ⟨args'⟩).run P w=.ok (.round l' fn tmps assign body) w∧MR P φ' A' w'∧Ext φ A w φ' A' w'∧VR φ' v v' ∧
    Steps P (lone (Frame.round l' fn tmps assign body .normal) (fr::cs) w) (lone (fr.raise [{ v:=v',recovered:=false }]) cs w'):=by
 unfold yieldA yieldB
 cases hlp:loopAt A l with
 | none=>exact trivial
 | some lp =>
  simp only [lenL0]
  cases hlen:Nat.beq args.length lp.params.length with
  | false=>exact trivial
  | true =>
   have hlen:=Nat.eq_of_beq_eq_true hlen
   obtain ⟨nn,s,d,L,h1,h2,h3⟩:=loop_there hM hl hlp
   have hsz:args'.length=L.params.size:=by rw [← ha.length,hlen,← h3.params]; simp
   have hrun:(Instr.yield l' ⟨args'⟩).run P w=.ok (.round l' L.fn ((L.params.zip ⟨args'⟩).foldl (fun tmps (p:Tmp × Value)=>tmps.setIfInBounds p.1 p.2) L.tmps) L.assign L.body) w:=by
    have hsz':¬ ((⟨args'⟩:Array Value).size ≠ L.params.size):=by simp [hsz]
    unfold Instr.yield
    simp only [Sem.run_bind,run_getLoop h2,Result.andThen_ok,if_neg hsz']
    rfl
   have htmps:TR φ lp.n (setParams lp.params args lp.tmps) ((L.params.zip ⟨args'⟩).foldl (fun tmps (p:Tmp × Value)=>tmps.setIfInBounds p.1 p.2) L.tmps):=by
    have:=setParams_ok h3.dst ha h3.tmps
    rw [← h3.params] at this ⊢
    have e:(L.params.zip ⟨args'⟩).toList=L.params.toList.zip args':=by simp
    rw [← Array.foldl_toList,e]
    exact this
   generalize htm:((L.params.zip ⟨args'⟩).foldl (fun tmps (p:Tmp × Value)=>tmps.setIfInBounds p.1 p.2) L.tmps)=tm at hrun htmps
   simp only [cond_true]
   -- the round's frame
   have key:RcOk P lp.n w.heap.size φ A w false ⟨L.fn,tm,[],.normal,some l'⟩ (fr::cs) ((⟨L.fn,tm,[],.normal,some l'⟩:Av).at [.code L.assign,.beginRound,.code L.body]) [] (seqK (yieldG r l lp.n lp.body) (r.code lp.n lp.assign (setParams lp.params args lp.tmps) [] A .round)):=by
    have hH:Held φ w lp.n w.heap.size (setParams lp.params args lp.tmps) [] ⟨L.fn,tm,[],.normal,some l'⟩:=⟨htmps,[],.nil,List.nodup_nil,by simp,fun _=>rfl⟩
    have h:=hR.code lp.n lp.assign φ A w w.heap.size (setParams lp.params args lp.tmps) [] .round ⟨L.fn,tm,[],.normal,some l'⟩ (fr::cs) [.beginRound,.code L.body] hM hH (Nat.le_refl _) (.round _ _ _)
    rw [h3.assign]
    rw [h3.body] at h ⊢
    cases hy:r.code lp.n lp.assign (setParams lp.params args lp.tmps) [] A .round with
    | fail=>exact trivial
    | ok ex t1 ds1 A1 x1 =>
     rw [hy] at h
     obtain ⟨φ1,w1,a1,cs1,fr1,g1,g2,g3,g4,g5,g6,g7,g8⟩:=h
     cases ex with
     | normal =>
      have g7:fr1=a1.at [.beginRound,.code lp.body]:=g7
      subst g7
      have hx1:x1=.round:=by
       have hk:=g5
       cases hk with
       | round=>rfl
      subst hx1
      refine RcOk.after g2 g4 g6.1 g8 ?_
      have hl1:BlkR φ1 l l':=hl.mono g2.le
      exact yieldG_ok hR hl1 g1 g3 g2.size (by rw [g4.round])
     | exit id =>
      obtain ⟨j,q1,q2⟩:=g7
      exact ⟨φ1,w1,a1,cs1,fr1,g1,g2,g3,g4,g5,g6,⟨j,q1,by rw [q2]; rfl⟩,g8⟩
     | ret=>exact ⟨φ1,w1,a1,cs1,fr1,g1,g2,g3,g4,g5,g6,g7,g8⟩
     | panic v=>exact ⟨φ1,w1,a1,cs1,fr1,g1,g2,g3,g4,g5,g6,g7,g8⟩
   cases hy:seqK (yieldG r l lp.n lp.body) (r.code lp.n lp.assign (setParams lp.params args lp.tmps) [] A .round) with
   | fail=>exact trivial
   | ok ex t1 ds1 A1 x1 =>
    rw [hy] at key
    obtain ⟨φ1,w1,a1,cs1,fr1,g1,g2,g3,g4,g5,g6,g7,g8⟩:=key
    have hcs:cs1=fr::cs:=g6.1.eq
    subst hcs
    have hl1:BlkR φ1 l l':=hl.mono g2.le
    -- the round ends
    have fin:∀ (j:Option Code),(fr1=a1.at (match j with | none=>[] | some c=>c |> fun c=>[])→True)→(∀ (L1:Loop),w1.heap[l']?=some (.loop L1)→Steps P (lone fr1 (fr::cs) w1) (lone (fr.finish (.bool j.isNone)) cs (setBlk w1 l' (.loop { L1 with state:=if j.isNone then .ready else .done,pending:=j })))) →
      match yieldE l A1 j (loopAt A1 l) with
      | .fail=>True
      | .val b A'=>∃ fn tmps assign body φ' w',(Instr.yield l' ⟨args'⟩).run P w=.ok (.round l' fn tmps assign body) w∧MR P φ' A' w'∧Ext φ A w φ' A' w' ∧
        Steps P (lone (Frame.round l' fn tmps assign body .normal) (fr::cs) w) (lone (fr.finish (.bool b)) cs w')
      | .panic v A'=>True:=by
     intro j _ hend
     cases hlp1:loopAt A1 l with
     | none=>exact trivial
     | some lp1 =>
      obtain ⟨n1,s1,d1,L1,q1,q2,q3⟩:=loop_there g1 hl1 hlp1
      simp only [yieldE]
      cases hp:putO A1 l (.loop ⟨lp1.n,lp1.tmps,lp1.params,lp1.assign,lp1.body,j,bif j.isNone then .ready else .done⟩) with
      | none=>exact trivial
      | some A2 =>
       obtain ⟨hlim,rfl⟩:=putO_some hp
       obtain ⟨u1,u2⟩:=g1.set (o:=.loop ⟨lp1.n,lp1.tmps,lp1.params,lp1.assign,lp1.body,j,bif j.isNone then .ready else .done⟩) (oc:=.loop { L1 with state:=if j.isNone then .ready else .done,pending:=j }) q1 hlim (n':=n1) (s':=s1) (d':=d1) ⟨_,rfl,⟨by cases j <;> rfl,rfl,q3.params,q3.assign,q3.body,q3.tmps,q3.dst⟩⟩ ⟨rfl,rfl,rfl⟩
       exact ⟨_,_,_,_,φ1,_,hrun,u1,g2.trans u2,g8.trans (hend L1 q2)⟩
    have hend:∀ (j:Option Code) (L1:Loop),w1.heap[l']?=some (.loop L1)→(Instr.endRound l' j).run P w1=.ok (.bool j.isNone) (setBlk w1 l' (.loop { L1 with state:=if j.isNone then .ready else .done,pending:=j })):=by
     intro j L1 q
     simp [Instr.endRound,run_getLoop q,run_setLoop q]
    have hk:a1.kind=.normal:=g4.kind
    have hro:a1.roundOf=some l':=g4.round
    cases ex with
    | normal =>
     have g7:fr1=a1.at []:=g7
     subst g7
     simp only [yieldF,jumpOf]
     cases ds1 with
     | cons=>exact trivial
     | nil =>
      have:=fin none (fun _=>trivial) fun L1 q=>go1 (by simp [stepG,stepG.exec,Av.at,hro,hend none L1 q,doReturn,hk])
      cases hyE:yieldE l A1 none (loopAt A1 l) with
      | fail=>exact trivial
      | val b A'=>rw [hyE] at this; exact this
      | panic v A' =>
       exfalso
       unfold yieldE at hyE
       split at hyE
       ·cases hyE
       ·split at hyE <;> cases hyE
    | exit id =>
     obtain ⟨j,q1,q2⟩:=g7
     subst q1
     have q2:exitTo id j=none:=q2
     simp only [yieldF,jumpOf]
     cases ds1 with
     | cons=>exact trivial
     | nil =>
      have:=fin (some (.exit id)) (fun _=>trivial) fun L1 q=>go1 (by simp [stepG,stepG.exec,Av.at,hro,hend (some (.exit id)) L1 q,doReturn,hk,q2])
      cases hyE:yieldE l A1 (some (.exit id)) (loopAt A1 l) with
      | fail=>exact trivial
      | val b A'=>rw [hyE] at this; exact this
      | panic v A' =>
       exfalso
       unfold yieldE at hyE
       split at hyE
       ·cases hyE
       ·split at hyE <;> cases hyE
    | ret =>
     obtain ⟨j,q1⟩:=g7
     subst q1
     simp only [yieldF,jumpOf]
     cases ds1 with
     | cons=>exact trivial
     | nil =>
      have:=fin (some .ret) (fun _=>trivial) fun L1 q=>go1 (by simp [stepG,stepG.exec,Av.at,hro,hend (some .ret) L1 q,doReturn,hk])
      cases hyE:yieldE l A1 (some .ret) (loopAt A1 l) with
      | fail=>exact trivial
      | val b A'=>rw [hyE] at this; exact this
      | panic v A' =>
       exfalso
       unfold yieldE at hyE
       split at hyE
       ·cases hyE
       ·split at hyE <;> cases hyE
    | panic v =>
     obtain ⟨j,v',q1,q2,q3⟩:=g7
     subst q1
     simp only [yieldF]
     cases ds1 with
     | cons=>exact trivial
     | nil =>
      obtain ⟨rs,e1,e2,e3,e4⟩:=g3.defers
      have hrs:=e4 (by rw [hro]; simp)
      subst hrs
      have hdef:a1.defers=[]:=e1.none
      refine ⟨_,_,_,_,φ1,w1,v',hrun,g1,g2,q2,g8.trans (go1 ?_)⟩
      have hcatch:(a1.pan j v').catches P=false:=by
       unfold Frame.catches
       split
       ·rename_i hq; exact absurd hq (q3 _ _ _ _ _)
       ·rfl
      simp only [Av.pan,Av.at,hdef] at hcatch
      simp [stepG,unwind,Av.pan,Av.at,hdef,hcatch]
end Go.Sh
namespace Go.Sh
open Go
variable {P:Program} {φ:Inj} {A:AW} {w:World}
theorem finish_at {a:Av} {ops:Array Oper} {i:Nat} {rest:List Nat} {k:List Item} {o:Oper} (ho:ops[i]?=some o) (v:Value) :
  (a.at (.inRegion ops (i::rest)::k)).finish v=(a.put o.dst v).at (.inRegion ops rest::k):=by
 unfold Frame.finish Av.at Av.put
 simp only [ho,Option.bind_some]
 cases o.dst <;> rfl
theorem pan_at (a:Av) (j:List Item) (v:Value):(a.at j).raise [{ v:=v,recovered:=false }]=a.pan j v:=rfl
theorem plain_region (ops:Array Oper) (l:List Nat) (k:List Item):Plain (.inRegion ops l::k):=fun _ _ _ _ _ h=>by cases h
theorem stepG_oper {a:Av} {ops:Array Oper} {i:Nat} {rest:List Nat} {k:List Item} {cs:List Frame} {o:Oper} (ho:ops[i]?=some o) (hw:Region.wanted o (yielded ops a.tmps)=true)
  (hd:a.roundOf=none∨∀ c,o.op ≠ .defer c) :
  stepG P true { frame:=a.at (.inRegion ops (i::rest)::k),callers:=cs,status:=.running,dying:=none } w =
   stepG.apply P true (a.at (.inRegion ops (i::rest)::k)) cs none (execOp (a.at (.inRegion ops (i::rest)::k)).eval o) w:=by
 rcases hd with hd | hd
 ·simp [stepG,stepG.exec,stepG.oper,Frame.oper?,Av.at,ho,hw,hd]
 ·have h2:∀ (l:Option Nat) (s:GStep) (f:Nat→Call→GStep),(match l,o.op with | some l,.defer c=>f l c | _,_=>s)=s:=by
   intro l s f
   cases l with
   | none=>rfl
   | some l =>
    split
    ·rename_i c h1 h2; exact absurd h2 (hd _)
    ·rfl
  cases hr:a.roundOf with
  | none=>simp [stepG,stepG.exec,stepG.oper,Frame.oper?,Av.at,ho,hw,hr]
  | some l =>
   simp only [stepG,stepG.exec,Av.at,ho,Option.map_some,Option.getD_some,hw,if_true,stepG.oper,Frame.oper?,hr]
   exact h2 (some l) _ _
theorem Held.push {n lo:Nat} {t:Tm} {ds:List Deferred} {a:Av} (h:Held φ w n lo t ds a) {d d':Deferred} (hd:DR φ d d'):Held φ w n lo t (d::ds) { a with defers:=d'::a.defers }:=by
 obtain ⟨h1,rs,h2,h3,h4,h5⟩:=h
 exact ⟨h1,rs,.cons hd h2,h3,h4,h5⟩
theorem ctx_of_round {x:Ctx} {kd:CallKind} {l:Nat} {cs:List Frame} (h:CtxR φ x kd (some l) cs):x=.round:=by cases h; rfl
theorem ctx_inv {x:Ctx} {kd:CallKind} {ro:Option Nat} {cs:List Frame} (h:CtxR φ x kd ro cs):(x=.none∧kd=.normal∧ro=none)∨x=.round∨(x=.ret∧kd=.deferred∧ro=none∧∃ c cs1,cs=c::cs1∧c.mode=.returning) ∨
  (∃ v v' b c cs1,x=.pan v b∧kd=.deferred∧ro=none∧cs=c::cs1∧c.mode=.panicking [{ v:=v',recovered:=b }]∧VR φ v v'):=by
 cases h with
 | none=>exact .inl ⟨rfl,rfl,rfl⟩
 | round=>exact .inr (.inl rfl)
 | ret c cs h=>exact .inr (.inr (.inl ⟨rfl,rfl,rfl,c,cs,rfl,h⟩))
 | pan c cs b h hv=>exact .inr (.inr (.inr ⟨_,_,b,c,cs,rfl,rfl,rfl,rfl,h,hv⟩))
theorem opsN_ok (hP:NoCount P) {r:Rec} (hR:RecOk P r) {n lo:Nat} {t:Tm} {ds:List Deferred} {x:Ctx} {a:Av} {cs:List Frame} {ops:Array Oper} {i:Nat} {rest:List Nat} {k:List Item} {o:Oper} {K:CodeF}
  (hM:MR P φ A w) (hH:Held φ w n lo t ds a) (hlo:lo≤w.heap.size) (hx:CtxR φ x a.kind a.roundOf cs) (ho:ops[i]?=some o) (hd:dstOk n o.dst=true) (hc:∀ y ∈ o.op.operands.toList,constOk P y=true)
  (hw:Region.wanted o (yielded ops a.tmps)=true) (hK:DoesOk P n [.inRegion ops rest] K) :
  RcOk P n lo φ A w (isPan x) a cs (a.at (.inRegion ops (i::rest)::k)) k (opsN r K (putDst o.dst).val t ds x ((opS P o.type o.op).val t A)):=by
 have hop:=op_ok hP hM (fr:=a.at (.inRegion ops (i::rest)::k)) hH.tmps o hc
 -- a deferred call in a round is not followed
 by_cases hdef:a.roundOf=none∨∀ c,o.op ≠ .defer c
 case neg =>
  have h1:a.roundOf ≠ none:=fun h=>hdef (.inl h)
  have h2:∃ c,o.op=.defer c:=by
   cases ho2:o.op <;> first | exact ⟨_,rfl⟩ | exact absurd (.inr fun c h=>by rw [ho2] at h; cases h) hdef
  obtain ⟨c,h2⟩:=h2
  have hxr:x=.round:=by
   cases hr:a.roundOf with
   | none=>exact absurd hr h1
   | some l=>rw [hr] at hx; exact ctx_of_round hx
  subst hxr
  have:opsN r K (putDst o.dst).val t ds .round ((opS P o.type o.op).val t A)=.fail:=by
   rw [h2]
   show opsN r K (putDst o.dst).val t ds .round ((deferS c).val t A)=.fail
   unfold deferS
   split
   ·show opsN r K (putDst o.dst).val t ds .round (deferV A _ _)=.fail
    unfold deferV
    split <;> rfl
   ·rfl
  rw [this]
  exact trivial
 case pos =>
  have hg:=stepG_oper (P:=P) (w:=w) (k:=k) (cs:=cs) (rest:=rest) ho hw hdef
  have hfin:=fun v=>finish_at (a:=a) (k:=k) (rest:=rest) ho v
  generalize hfr:a.at (.inRegion ops (i::rest)::k)=fr at *
  have hfk:fr.todo=.inRegion ops (i::rest)::k:=by rw [← hfr]; rfl
  have hfr0:fr.roundOf=a.roundOf:=by rw [← hfr]; rfl
  have hfkd:fr.kind=a.kind:=by rw [← hfr]; rfl
  have hfd:fr.defers=a.defers:=by rw [← hfr]; rfl
  -- on with a value
  have next:∀ (φ1:Inj) (A1:AW) (w1:World) (v v':Value) (x1:Ctx) (cs1:List Frame) (ds1:List Deferred) (a1:Av),MR P φ1 A1 w1→Ext φ A w φ1 A1 w1→Held φ1 w1 n lo t ds1 a1→a.Like a1→VR φ1 v v'→CtxR φ1 x1 a.kind a.roundOf cs1→CsR (isPan x) cs cs1→isPan x1=isPan x →
    Steps P (lone fr cs w) (lone ((a1.put o.dst v').at (.inRegion ops rest::k)) cs1 w1)→RcOk P n lo φ A w (isPan x) a cs fr k (K ((putDst o.dst).val v t) ds1 A1 x1):=by
   intro φ1 A1 w1 v v' x1 cs1 ds1 a1 h1 h2 h3 h4 h5 h6 h7 h8 h9
   have hl:=h4.trans (a1.like_put o.dst v')
   refine RcOk.after h2 hl h7 h9 ?_
   rw [← h8]
   exact hK φ1 A1 w1 lo _ ds1 x1 _ cs1 k h1 (h3.put hd h5) (Nat.le_trans hlo h2.size) (by rw [hl.kind,hl.round]; exact h6)
  have bad:∀ (φ1:Inj) (A1:AW) (w1:World) (v v':Value),MR P φ1 A1 w1→Ext φ A w φ1 A1 w1→VR φ1 v v'→Steps P (lone fr cs w) (lone (fr.raise [{ v:=v',recovered:=false }]) cs w1) →
    RcOk P n lo φ A w (isPan x) a cs fr k (.ok (.panic v) t ds A1 x):=by
   intro φ1 A1 w1 v v' h1 h2 h3 h4
   refine ⟨φ1,w1,a,cs,_,h1,h2,(hH.ext h2).weak,.refl _,hx.mono h2.le,⟨.same _ _,rfl⟩,⟨.inRegion ops (i::rest)::k,v',?_,h3,plain_region _ _ _⟩,h4⟩
   rw [← hfr]; rfl
  cases hy:(opS P o.type o.op).val t A with
  | fail=>exact trivial
  | val v A1 =>
   rw [hy] at hop
   obtain ⟨φ1,w1,h1,h2,h3⟩:=hop
   rcases h3 with ⟨v',h3,h4⟩ | ⟨h3,rfl⟩
   ·exact next φ1 A1 w1 v v' x cs ds a h1 h2 (hH.ext h2) (.refl _) h4 (hx.mono h2.le) (.same _ _) rfl (go1 (by rw [hg,← hfin]; simp [stepG.apply,h3]))
   ·exact next φ1 A1 w1 undef undef x cs ds a h1 h2 (hH.ext h2) (.refl _) undef_VR (hx.mono h2.le) (.same _ _) rfl (go1 (by rw [hg,← hfin]; simp [stepG.apply,h3]))
  | enter f args A1 =>
   rw [hy] at hop
   obtain ⟨rfl,args',h3,h4⟩:=hop
   have hcall:=call_back hR hM f h4 fr cs
   have henter:Steps P (lone fr cs w) (lone (Frame.enter P f ⟨args'⟩ .normal) (fr::cs) w):=go1 (by rw [hg]; simp [stepG.apply,h3,hfk])
   simp only [opsN,opsO]
   cases hq:r.call f args A1 .none with
   | fail=>exact trivial
   | ok out A2 x2 =>
    rw [hq] at hcall
    cases out with
    | ret v =>
     obtain ⟨φ1,w1,v',h5,h6,h7,h8⟩:=hcall
     exact next φ1 A2 w1 v v' x cs ds a h5 h6 (hH.ext h6) (.refl _) h7 (hx.mono h6.le) (.same _ _) rfl (henter.trans (by rw [← hfin]; exact h8))
    | panic v =>
     obtain ⟨φ1,w1,v',h5,h6,h7,h8⟩:=hcall
     exact bad φ1 A2 w1 v v' h5 h6 h7 (henter.trans h8)
  | yield l args A1 =>
   rw [hy] at hop
   obtain ⟨rfl,l',args',h3,h4,h5⟩:=hop
   have hyi:=yield_ok hR hM h3 h4 fr cs
   simp only [opsN]
   cases hq:yieldA r l args A1 with
   | fail=>exact trivial
   | val b A2 =>
    rw [hq] at hyi
    obtain ⟨fn,tmps,assign,body,φ1,w1,h6,h7,h8,h9⟩:=hyi
    have hst:Steps P (lone fr cs w) (lone (Frame.round l' fn tmps assign body .normal) (fr::cs) w):=go1 (by rw [hg]; simp [stepG.apply,h5,h6])
    exact next φ1 A2 w1 (.bool b) (.bool b) x cs ds a h7 h8 (hH.ext h8) (.refl _) (.bool b) (hx.mono h8.le) (.same _ _) rfl (hst.trans (by rw [← hfin]; exact h9))
   | panic v A2 =>
    rw [hq] at hyi
    obtain ⟨fn,tmps,assign,body,φ1,w1,v',h6,h7,h8,h9,h10⟩:=hyi
    have hst:Steps P (lone fr cs w) (lone (Frame.round l' fn tmps assign body .normal) (fr::cs) w):=go1 (by rw [hg]; simp [stepG.apply,h5,h6])
    exact bad φ1 A2 w1 v v' h7 h8 h9 (hst.trans h10)
  | defer d A1 =>
   rw [hy] at hop
   obtain ⟨rfl,d',h3,h4⟩:=hop
   simp only [opsN]
   cases hr:isRound x with
   | true=>exact trivial
   | false =>
    simp only [cond_false]
    refine next φ A1 w undef undef x cs (d::ds) { a with defers:=d'::a.defers } hM (Ext.refl _ _ _) (hH.push h3) ⟨rfl,rfl,rfl⟩ undef_VR hx (.same _ _) rfl (go1 ?_)
    rw [hg,← finish_at (a:={ a with defers:=d'::a.defers }) ho]
    have e:({ fr with defers:=d'::fr.defers }:Frame)=({ a with defers:=d'::a.defers }:Av).at (.inRegion ops (i::rest)::k):=by rw [← hfr]; rfl
    simp only [stepG.apply,Sem.runT_eq,h4,GStep.bare_after]
    rw [← e]
    rfl
  | recover A1 =>
   rw [hy] at hop
   obtain ⟨rfl,h3⟩:=hop
   simp only [opsN]
   have hnil:fr.roundOf=none→tryRecover fr cs=none→Steps P (lone fr cs w) (lone ((a.put o.dst .nilIface).at (.inRegion ops rest::k)) cs w):=fun h1 h2=>go1 (by
    rw [hg,← hfin]; simp [stepG.apply,h3,h1,h2])
   rcases ctx_inv hx with ⟨rfl,hk,hro⟩ | rfl | ⟨rfl,hk,hro,c,cs1,rfl,hm⟩ | ⟨v,v',b,c,cs1,rfl,hk,hro,rfl,hm,hv⟩
   ·exact next φ A1 w .nilIface .nilIface .none cs ds a hM (Ext.refl _ _ _) hH (.refl _) .nilIface hx (.same _ _) rfl (hnil (by rw [hfr0,hro]) (by unfold tryRecover; rw [hfkd,hk]))
   ·exact trivial
   ·exact next φ A1 w .nilIface .nilIface .ret (c::cs1) ds a hM (Ext.refl _ _ _) hH (.refl _) .nilIface hx (.same _ _) rfl (hnil (by rw [hfr0,hro]) (by unfold tryRecover; rw [hfkd,hk]; simp [hm]))
   ·cases b with
    | true=>exact next φ A1 w .nilIface .nilIface (.pan v true) (c::cs1) ds a hM (Ext.refl _ _ _) hH (.refl _) .nilIface hx (.same _ _) rfl (hnil (by rw [hfr0,hro]) (by unfold tryRecover; rw [hfkd,hk]; simp [hm]))
    | false =>
     refine next φ A1 w v v' (.pan v true) ({ c with mode:=.panicking [{ v:=v',recovered:=true }] }::cs1) ds a hM (Ext.refl _ _ _) hH (.refl _) hv (by rw [hk,hro]; exact .pan _ _ _ rfl hv) (.mode _ _ _) rfl (go1 ?_)
     have ht:tryRecover fr (c::cs1)=some (v',{ c with mode:=.panicking [{ v:=v',recovered:=true }] }::cs1):=by
      unfold tryRecover; rw [hfkd,hk]; simp [hm]
     rw [hg,← hfin]
     simp [stepG.apply,h3,hfr0,hro,ht]
  | panic v A1 =>
   rw [hy] at hop
   obtain ⟨φ1,w1,h1,h2,v',h3,h4⟩:=hop
   exact bad φ1 A1 w1 v v' h1 h2 h3 (go1 (by rw [hg]; simp [stepG.apply,h4]))
end Go.Sh
namespace Go.Sh
open Go
variable {P:Program} {φ:Inj} {A:AW} {w:World}
def boolOf (v:Value):Option Bool:=match v with | .bool c=>some c | _=>none
theorem isB_some {want b:Bool} {v v':Value} (h:isB want v=some b) (hv:VR φ v v'):(boolOf v' == some want)=b:=by
 unfold isB at h
 split at h
 ·rename_i c
  have e:=VR_bool hv
  subst e
  rw [← opt_some h]
  cases c <;> cases want <;> rfl
 ·cases h
 ·rename_i h1 h2
  have hb:b=false:=(opt_some h).symm
  subst hb
  have:∀ c,v' ≠ .bool c:=by
   rintro c rfl
   cases hv with
   | bool=>exact h1 _ rfl
   | unk=>exact h2 _ rfl
  cases v' with
  | bool c=>exact absurd rfl (this c)
  | _=>rfl
theorem guardS_ok {ops:Array Oper} {o:Oper} {n:Nat} {t:Tm} {a:Av} {b:Bool} (hT:TR φ n t a.tmps) (h:(guardS ops.toList o.guard).val t=some b):Region.wanted o (yielded ops a.tmps)=b:=by
 unfold Region.wanted
 unfold guardS at h
 cases hg:o.guard with
 | none=>rw [hg] at h; exact opt_some h
 | some p =>
  rw [hg] at h
  simp only [nth_eq] at h
  obtain ⟨j,want⟩:=p
  simp only at h ⊢
  cases hj:ops.toList[j]? with
  | none=>rw [hj] at h; cases h
  | some q =>
   rw [hj] at h
   simp only at h
   have hj':ops[j]?=some q:=by rw [← Array.getElem?_toList]; exact hj
   cases hd:q.dst with
   | none=>rw [hd] at h; cases h
   | some d =>
    rw [hd] at h
    simp only at h
    have hv:=hT.2 d
    have e:=isB_some (φ:=φ) h hv
    rw [← e]
    congr 1
    unfold yielded
    simp only [hj',Option.bind_some,hd]
    rw [Array.getD_eq_getD_getElem?]
    cases hs:a.tmps[d]? with
    | none=>rfl
    | some v=>cases v <;> rfl
theorem step_region_end' {a:Av} {ops:Array Oper} {k:List Item} {cs:List Frame}:Steps P (lone (a.at (.inRegion ops []::k)) cs w) (lone (a.at k) cs w):=go1 (by simp [stepG,stepG.exec,Av.at])
theorem step_skipped {a:Av} {ops:Array Oper} {i:Nat} {rest:List Nat} {k:List Item} {cs:List Frame} {o:Oper} (ho:ops[i]?=some o) (hw:Region.wanted o (yielded ops a.tmps)=false) :
  Steps P (lone (a.at (.inRegion ops (i::rest)::k)) cs w) (lone ((a.put o.dst undef).at (.inRegion ops rest::k)) cs w):=by
 refine go1 ?_
 rw [← finish_at ho]
 simp [stepG,stepG.exec,Av.at,ho,hw]
theorem operOk_some {n:Nat} {o:Oper} (h:operOk P n o=true):dstOk n o.dst=true∧∀ y ∈ o.op.operands.toList,constOk P y=true:=by
 unfold operOk at h
 simp only [Bool.and_eq_true] at h
 exact ⟨h.1,List.all_eq_true.1 h.2⟩
theorem opsS_ok (hP:NoCount P) {r:Rec} (hR:RecOk P r) (n:Nat) (ops:Array Oper):∀ (rest:List Oper) (i:Nat),ops.toList.drop i=rest→DoesOk P n [.inRegion ops (List.range' i rest.length)] ((opsS P n ops.toList rest).val r)
 | [],i,_=>fun φ A w lo t ds x a cs k hM hH hlo hx=>⟨φ,w,a,cs,a.at k,hM,Ext.refl _ _ _,hH,.refl _,hx,⟨.same _ _,rfl⟩,rfl,step_region_end'⟩
 | o::rest,i,h=>by
  intro φ A w lo t ds x a cs k hM hH hlo hx
  have ho:ops[i]?=some o:=by
   rw [← Array.getElem?_toList]
   have:(ops.toList.drop i)[0]?=some o:=by rw [h]; rfl
   rw [List.getElem?_drop] at this
   simpa using this
  have hrest:ops.toList.drop (i + 1)=rest:=by
   rw [← List.drop_drop (i:=1) (j:=i),h] <;> rfl
  have ih:=opsS_ok hP hR n ops rest (i + 1) hrest
  show RcOk P n lo φ A w (isPan x) a cs (a.at ([.inRegion ops (List.range' i (rest.length + 1))]++k)) k ((opsS P n ops.toList (o::rest)).val r t ds A x)
  rw [List.range'_succ]
  unfold opsS
  cases hok:operOk P n o with
  | false=>exact trivial
  | true =>
   obtain ⟨hd,hc⟩:=operOk_some hok
   show RcOk P n lo φ A w (isPan x) a cs (a.at (.inRegion ops (i::List.range' (i + 1) rest.length)::k)) k (opsG r ((opsS P n ops.toList rest).val r) (putDst o.dst).val (opS P o.type o.op).val t ds A x ((guardS ops.toList o.guard).val t))
   unfold opsG
   cases hg:(guardS ops.toList o.guard).val t with
   | none=>exact trivial
   | some b =>
    have hw:=guardS_ok hH.tmps hg
    cases b with
    | true=>exact opsN_ok hP hR hM hH hlo hx ho hd hc hw ih
    | false =>
     refine RcOk.after (Ext.refl _ _ _) (a.like_put o.dst undef) (.same _ _) (step_skipped ho hw) ?_
     exact ih φ A w lo _ ds x _ cs k hM (hH.put hd undef_VR) hlo (by rw [(a.like_put o.dst undef).kind,(a.like_put o.dst undef).round]; exact hx)
theorem region_ok (hP:NoCount P) {r:Rec} (hR:RecOk P r) (n id:Nat) (ops:Array Oper):DoesOk P n [.code (.region id ops false)] ((opsS P n ops.toList ops.toList).val r):=by
 have h:=opsS_ok hP hR n ops ops.toList 0 rfl
 rw [Array.length_toList,← List.range_eq_range'] at h
 exact DoesOk.pre (fun a cs k w=>go1 (by simp [stepG,stepG.exec,Av.at])) h
end Go.Sh
namespace Go.Sh
open Go
variable {P:Program} {φ:Inj} {A:AW} {w:World}
def Av.md (a:Av) (j:List Item) (m:FrameMode):Frame:={ a.at j with mode:=m }
theorem MR.touch (hM:MR P φ A w) {r:Nat} (h:∀ b n s d,φ b ≠ some (.at_ r n s d)) (o:Obj):MR P φ A (setBlk w r o) :=
 ⟨fun b c n s d hb=>by
  obtain ⟨o1,oc,h1,h2,h3⟩:=hM.obj b c n s d hb
  exact ⟨o1,oc,h1,by rw [setBlk_other (by rintro rfl; exact h _ _ _ _ hb)]; exact h2,h3⟩,hM.dead,hM.one,hM.fresh,hM.globals,hM.lim⟩
theorem Ext.touch {φ0:Inj} {A0:AW} {w0:World} (e:Ext φ0 A0 w0 φ A w) {r:Nat} (h:w0.heap.size≤r) (o:Obj):Ext φ0 A0 w0 φ A (setBlk w r o) :=
 ⟨e.le,e.lim,e.next,e.low,by simpa [setBlk] using e.size,fun c hc hb=>by rw [setBlk_other (by omega)]; exact e.frame c hc hb,e.new,e.idle,e.os,e.tape,e.output⟩
theorem Loose.touch {r r':Nat} (h:Loose φ w r) (hne:r ≠ r') (o:Obj):Loose φ (setBlk w r' o) r:=⟨h.1,by rw [setBlk_other hne]; exact h.2⟩
def ModeR (φ:Inj) (y:Ctx) (m:FrameMode):Prop:=(y=.ret∧m=.returning)∨∃ v v',y=.pan v false∧m=.panicking [{ v:=v',recovered:=false }]∧VR φ v v'
theorem ModeR.mono {φ':Inj} {y:Ctx} {m:FrameMode} (h:ModeR φ y m) (hle:φ.le φ'):ModeR φ' y m:=by
 rcases h with h | ⟨v,v',h1,h2,h3⟩
 ·exact .inl h
 ·exact .inr ⟨v,v',h1,h2,h3.mono hle⟩
theorem ModeR.unwinds {y:Ctx} {m:FrameMode} (h:ModeR φ y m) (a:Av) (j:List Item) (cs:List Frame) (w:World) :
  stepG P true { frame:=a.md j m,callers:=cs,status:=.running,dying:=none } w=unwind P true (a.md j m) cs none w:=by
 rcases h with ⟨_,rfl⟩ | ⟨v,v',_,rfl,_⟩ <;> simp [stepG,Av.md,Av.at]
theorem step_mark {y:Ctx} {m:FrameMode} (h:ModeR φ y m) {a:Av} {j:List Item} {cs:List Frame} {r:Nat} {ds:List Deferred} (hd:a.defers={ target:=.collected r,args:=#[] }::ds) (hr:w.heap[r]?=some (.deferred (some []))) :
  Steps P (lone (a.md j m) cs w) (lone (({ a with defers:=ds }:Av).md j m) cs (setBlk w r (.deferred none))):=by
 refine go1 ?_
 have ht:(Instr.takeDeferred r).run P w=.ok [] (setBlk w r (.deferred none)):=by
  have h2:(setObj r (.deferred none)).run P w=.ok () (setBlk w r (.deferred none)):=by
   unfold setObj; simp only [Sem.run,hr]; rfl
  simp [Instr.takeDeferred,run_getObj hr (by intro a b c h; cases h),h2]
 rw [h.unwinds]
 simp [unwind,Av.md,Av.at,hd,ht]
theorem invokeA_ok (hP:NoCount P) (hM:MR P φ A w) {d d':Deferred} (h:DR φ d d'):OpOk P φ A w (invokeA P A d.target d.args.toList) ((invoke d'.target d'.args).run P w):=by
 obtain ⟨h1,h2⟩:=h
 obtain ⟨tg,args⟩:=d
 obtain ⟨tg',args'⟩:=d'
 cases h1 with
 | fn hf hc =>
  obtain ⟨args'⟩:=args'
  exact fnA_ok hP hM hf hc h2
theorem deferA_ok (hP:NoCount P) {r:Rec} (hR:RecOk P r) {φ0:Inj} {A0:AW} {w0:World} (j:List Item) {ds ds':List Deferred} {rs:List Nat} (hds:DsR φ ds ds' rs) :
  ∀ {A:AW} {w:World} {a:Av} {cs:List Frame} {y:Ctx} {m:FrameMode} {φ1:Inj},φ.le φ1→a.roundOf=none→a.defers=ds'→MR P φ1 A w→Ext φ0 A0 w0 φ1 A w→rs.Nodup→(∀ q ∈ rs,w0.heap.size≤q∧Loose φ1 w q)→ModeR φ1 y m →
   match deferA P r ds A y with
   | .fail=>True
   | .ok A' y'=>∃ φ' w' m',MR P φ' A' w'∧Ext φ0 A0 w0 φ' A' w'∧ModeR φ' y' m'∧φ1.le φ'∧Steps P (lone (a.md j m) cs w) (lone (({ a with defers:=[] }:Av).md j m') cs w'):=by
 induction hds with
 | nil =>
  intro A w a cs y m φ1 hle hro ha hM hE _ _ hm
  refine ⟨φ1,w,m,hM,hE,hm,φ1.le_refl,?_⟩
  have:({ a with defers:=[] }:Av)=a:=by cases a; simp_all
  rw [this]; exact .refl _ _
 | mark q k ih =>
  rename_i ds ds' rs
  intro A w a cs y m φ1 hle hro ha hM hE hnd hl hm
  have h1:=hl q (List.mem_cons_self ..)
  have hst:=step_mark (P:=P) (φ:=φ1) (j:=j) (cs:=cs) hm ha h1.2.2
  have hnd':=List.nodup_cons.1 hnd
  have:=ih (A:=A) (w:=setBlk w q (.deferred none)) (a:={ a with defers:=ds' }) (cs:=cs) hle hro rfl (hM.touch h1.2.1 _) (hE.touch h1.1 _) hnd'.2
   (fun q' hq'=>⟨(hl q' (List.mem_cons_of_mem _ hq')).1,(hl q' (List.mem_cons_of_mem _ hq')).2.touch (by rintro rfl; exact hnd'.1 hq') _⟩) hm
  revert this
  generalize deferA P r _ A y=z
  intro this
  cases z with
  | fail=>exact trivial
  | ok A' y' =>
   obtain ⟨φ',w',m',g1,g2,g3,g4,g5⟩:=this
   exact ⟨φ',w',m',g1,g2,g3,g4,hst.trans g5⟩
 | cons h k ih =>
  rename_i d d' ds ds' rs
  intro A w a cs y m φ1 hle hro ha hM hE hnd hl hm
  have hop:=invokeA_ok hP hM (h.mono hle)
  obtain ⟨tg,dargsA⟩:=d
  obtain ⟨tg',dargs⟩:=d'
  have ht:TargetR φ tg tg':=h.target
  obtain ⟨fn',cap',rfl⟩:∃ f c,tg'=.fn f c:=by cases ht; exact ⟨_,_,rfl⟩
  simp only [deferA,deferN]
  cases hy:invokeA P A tg dargsA.toList with
  | enter f args A1 =>
   have hop:OpOk P φ1 A w (invokeA P A tg dargsA.toList) ((invoke (.fn fn' cap') dargs).run P w):=hop
   rw [hy] at hop
   obtain ⟨rfl,args',h3,h4⟩:=hop
   simp only [deferO]
   -- the call is made
   generalize hfr:({ a with defers:=ds' }:Av).md j m=fr
   have henter:Steps P (lone (a.md j m) cs w) (lone (Frame.enter P f ⟨args'⟩ .deferred) (fr::cs) w):=by
    refine go1 ?_
    rw [hm.unwinds]
    rw [← hfr]
    simp [unwind,Av.md,Av.at,ha,callDeferred,h3]
   have hfm:fr.mode=m:=by rw [← hfr]; rfl
   have hctx:CtxR φ1 y .deferred none (fr::cs):=by
    rcases hm with ⟨rfl,rfl⟩ | ⟨v,v',rfl,rfl,hv⟩
    ·exact .ret _ _ hfm
    ·exact .pan _ _ _ hfm hv
   have hcall:=hR.call f φ1 A1 w args args' y .deferred (fr::cs) hM h4 hctx
   cases hq:r.call f args A1 y with
   | fail=>exact trivial
   | ok out A2 y2 =>
    rw [hq] at hcall
    obtain ⟨φ2,w2,cs2,fr2,g1,g2,g3,g4,g5,g6⟩:=hcall
    cases out with
    | panic v=>exact trivial
    | ret v =>
     simp only
     obtain ⟨q1,q2,q3,fn,q4,q5,v',q6,q7⟩:=g5
     -- the frame, behind the call
     have hm2:∃ m2,ModeR φ2 (afterD y2) m2∧Steps P (lone fr2 cs2 w2) (lone (({ a with defers:=ds' }:Av).md j m2) cs w2):=by
      rcases hm with ⟨rfl,rfl⟩ | ⟨v,v',rfl,rfl,hv⟩
      ·have hcs:=g4.1.eq
       subst hcs
       rcases ctx_inv g3 with ⟨_,h,_⟩ | rfl | ⟨rfl,_,_,c,cs3,_,_⟩ | ⟨v,v',b,c,cs3,rfl,_⟩
       ·cases h
       ·cases g3
       ·refine ⟨.returning,.inl ⟨rfl,rfl⟩,go1 ?_⟩
        rw [hfr]
        simp [stepG,unwind,doReturn,q1,q2,q3,q4,q5,q7,hfm]
       ·have:=g4.2; cases this
      ·rcases ctx_inv g3 with ⟨_,h,_⟩ | rfl | ⟨rfl,_⟩ | ⟨v1,v1',b,c,cs3,rfl,_,_,rfl,hcm,hv1⟩
       ·cases h
       ·cases g3
       ·have:=g4.2; cases this
       ·have hc:c={ fr with mode:=.panicking [{ v:=v1',recovered:=b }] }∧cs3=cs:=by
         have g4':=g4.1
         generalize hcc:c::cs3=l at g4'
         cases g4' with
         | same =>
          injection hcc with e1 e2
          subst e1 e2
          refine ⟨?_,rfl⟩
          cases c
          simp_all
         | mode _ m3 _ =>
          injection hcc with e1 e2
          subst e2
          refine ⟨?_,rfl⟩
          subst e1
          simp only at hcm
          rw [hcm]
        obtain ⟨rfl,rfl⟩:=hc
        cases b with
        | true =>
         refine ⟨.returning,.inl ⟨rfl,rfl⟩,go1 ?_⟩
         rw [← hfr]
         simp [stepG,unwind,doReturn,q1,q2,q3,q4,q5,q7,Av.md,Av.at]
        | false =>
         refine ⟨_,.inr ⟨v1,v1',rfl,rfl,hv1⟩,go1 ?_⟩
         rw [← hfr]
         simp [stepG,unwind,doReturn,q1,q2,q3,q4,q5,q7,Av.md,Av.at]
     obtain ⟨m2,hm2,hst2⟩:=hm2
     have:=ih (A:=A2) (w:=w2) (a:={ a with defers:=ds' }) (cs:=cs) (y:=afterD y2) (m:=m2) (Inj.le_trans hle g2.le) hro rfl g1 (hE.trans g2) hnd (fun q' hq'=>⟨(hl q' hq').1,(hl q' hq').2.ext g2⟩) hm2
     revert this
     generalize deferA P r ds A2 (afterD y2)=z
     intro this
     cases z with
     | fail=>exact trivial
     | ok A' y' =>
      obtain ⟨φ',w',m',e1,e2,e3,e4,e5⟩:=this
      exact ⟨φ',w',m',e1,e2,e3,Inj.le_trans g2.le e4,henter.trans (g6.trans (hst2.trans e5))⟩
  | _=>exact trivial
end Go.Sh
namespace Go.Sh
open Go
variable {P:Program} {φ:Inj} {A:AW} {w:World}
theorem tget_enterT:∀ (vs:List Value) (i:Nat) (t:Tm) (j:Nat),i + vs.length≤60000→tget (enterT i vs t) j=if i≤j∧j < i + vs.length then (vs[j - i]?).getD undef else tget t j
 | [],i,t,j,_=>by
  rw [if_neg (fun h=>by have:=h.2; simp only [List.length_nil] at this; omega)]; rfl
 | v::vs,i,t,j,h=>by
  simp only [List.length_cons] at h ⊢
  show tget (enterT (Nat.succ i) vs (tset t i v)) j=_
  rw [tget_enterT vs (i + 1) _ j (by omega),tget_tset t i v j (by omega)]
  by_cases h1:i + 1≤j∧j < i + 1 + vs.length
  ·rw [if_pos h1,if_pos (by omega),show j - i=(j - (i + 1)) + 1 from by omega]
   rfl
  ·rw [if_neg h1]
   by_cases h2:j=i
   ·subst h2
    rw [if_pos rfl,if_pos (by omega)]
    simp
   ·rw [if_neg h2,if_neg (by omega)]
theorem enter_TR {n:Nat} {args args':List Value} (ha:LR φ args args') (hl:args.length≤n) (hn:n≤60000):TR φ n (enterT 0 args .nil) (⟨args'⟩++Array.replicate (n - args'.length) undef):=by
 have hlen:=ha.length
 refine ⟨by simp; omega,fun i=>?_⟩
 rw [tget_enterT args 0 .nil i (by omega),Array.getD_eq_getD_getElem?]
 by_cases h:i < args.length
 ·rw [if_pos (by omega)]
  have h1:args[i]?=some args[i]:=List.getElem?_eq_getElem h
  obtain ⟨v',h2,h3⟩:=ha.get h1
  have h4:((⟨args'⟩++Array.replicate (n - args'.length) undef:Array Value))[i]?=some v':=by
   rw [← Array.getElem?_toList]
   simp only [Array.toList_append]
   rw [List.getElem?_append_left (by rw [← hlen]; exact h)]
   exact h2
  rw [h4,Nat.sub_zero,h1]
  exact h3
 ·rw [if_neg (by omega),tget_nil]
  have h4:(((⟨args'⟩++Array.replicate (n - args'.length) undef:Array Value))[i]?).getD undef=undef:=by
   rw [← Array.getElem?_toList]
   simp only [Array.toList_append,Array.toList_replicate]
   rw [List.getElem?_append_right (by rw [← hlen]; omega),List.getElem?_replicate]
   split <;> rfl
  rw [h4]
  exact undef_VR
theorem notJunk_some {v u:Value} (h:notJunk v=some u):u=v∧v ≠ junk:=by
 unfold notJunk at h
 split at h
 ·cases h
 ·rename_i hne
  exact ⟨(opt_some h).symm,by rintro rfl; exact hne _ rfl⟩
def resM (a:Array Value) (rv:ResultVar):Sem Value :=
 match rv with
 | .tmp n=>pure (a.getD n undef)
 | .cell c ty=>do loadVar ty (← asAddr (a.getD c undef))
theorem resA_ok (hM:MR P φ A w) {t:Tm} {a:Array Value} (hT:TRw φ t a) {rv:ResultVar} {v:Value} (h:resA P t A rv=some v) :
  ∃ v',VR φ v v'∧(resM a rv).run P w=.ok v' w:=by
 cases rv with
 | tmp n =>
  obtain ⟨rfl,h2⟩:=notJunk_some h
  rcases hT n with h3 | h3
  ·exact absurd h3 h2
  ·exact ⟨_,h3,rfl⟩
 | cell c ty =>
  unfold resA at h
  simp only at h
  split at h
  ·rename_i ad hp
   have hp:tget t c=.pointer (some ad):=hp
   rcases hT c with h3 | h3
   ·rw [hp] at h3; cases h3
   ·rw [hp] at h3
    generalize hu:a.getD c undef=u at h3
    cases h3 with
    | ptr had =>
     obtain ⟨v',h4,h5⟩:=ldA_ok hM had h
     refine ⟨v',h4,?_⟩
     show (do loadVar ty (← asAddr (a.getD c undef)):Sem Value).run P w=_
     rw [hu]
     simp [asAddr,h5]
  ·cases h
theorem ressA_ok (hM:MR P φ A w) {t:Tm} {a:Array Value} (hT:TRw φ t a):∀ {l:List ResultVar} {vs:List Value},ressA P t A l=some vs →
  ∃ vs',LR φ vs vs'∧(l.mapM (resM a)).run P w=.ok vs' w
 | [],vs,h=>by
  simp only [ressA] at h
  cases h
  exact ⟨[],.nil,rfl⟩
 | rv::l,vs,h=>by
  simp only [ressA] at h
  cases h1:resA P t A rv with
  | none=>rw [h1] at h; cases h
  | some v =>
   rw [h1] at h
   simp only at h
   cases h2:ressA P t A l with
   | none=>rw [h2] at h; cases h
   | some us =>
    rw [h2] at h
    cases h
    obtain ⟨v',g1,g2⟩:=resA_ok hM hT h1
    obtain ⟨us',g3,g4⟩:=ressA_ok hM hT h2
    refine ⟨v'::us',.cons g1 g3,?_⟩
    rw [List.mapM_cons]
    simp only [Sem.run_bind,g2,Result.andThen_ok,g4,Sem.run_pure]
theorem results_ok (hM:MR P φ A w) {fn:Func} {t:Tm} {a:Array Value} (hT:TRw φ t a) {vs:List Value} (h:ressA P t A fn.results.toList=some vs):∃ v',VR φ (tupV vs) v'∧(results fn a).run P w=.ok v' w:=by
 obtain ⟨vs',h1,h2⟩:=ressA_ok hM hT h
 have hr:(results fn a).run P w=.ok (if h:(⟨vs'⟩:Array Value).size=1 then (⟨vs'⟩:Array Value)[0] else .tuple ⟨vs'⟩) w:=by
  have hdef:results fn a=(do
    let vs ← fn.results.mapM (resM a)
    pure (if h:vs.size=1 then vs[0] else .tuple vs)):=by
   unfold results
   congr 1
  rw [hdef,Array.mapM_eq_mapM_toList]
  simp only [Sem.run_bind,Sem.run_map,h2,Result.andThen_ok,Sem.run_pure]
 refine ⟨_,?_,hr⟩
 cases h1 with
 | nil=>exact .tuple .nil
 | cons hv k =>
  cases k with
  | nil=>exact hv
  | cons hv2 k=>exact .tuple (.cons hv (.cons hv2 k))
theorem call_end (hP:NoCount P) {r:Rec} (hR:RecOk P r) {φ0:Inj} {A0:AW} {w0:World} {a:Av} {cs:List Frame} {ds:List Deferred} {j:List Item} {y:Ctx} {m:FrameMode} (hM:MR P φ A w) (hE:Ext φ0 A0 w0 φ A w)
  (hd:∃ rs,DsR φ ds a.defers rs∧rs.Nodup∧(∀ r ∈ rs,w0.heap.size≤r∧Loose φ w r)∧(a.roundOf ≠ none→rs=[])) (hro:a.roundOf=none) (hm:ModeR φ y m) :
  match deferA P r ds A y with
  | .fail=>True
  | .ok A' y'=>∃ φ' w' m',MR P φ' A' w'∧Ext φ0 A0 w0 φ' A' w'∧ModeR φ' y' m'∧φ.le φ'∧Steps P (lone (a.md j m) cs w) (lone (({ a with defers:=[] }:Av).md j m') cs w'):=by
 obtain ⟨rs,h1,h2,h3,_⟩:=hd
 exact deferA_ok hP hR j h1 φ.le_refl hro rfl hM hE h2 h3 hm
theorem leaveP_eq (r:Rec) (fn:Func) (v:Value) (t:Tm) (ds:List Deferred) (A:AW) (x:Ctx):leaveP P r fn v t ds A x=panK P fn t x (deferA P r ds A (.pan v false)):=by
 cases ds <;> rfl
theorem leaveR_eq (r:Rec) (fn:Func) (t:Tm) (ds:List Deferred) (A:AW) (x:Ctx):leaveR P r fn t ds A x=retK P fn t x (deferA P r ds A .ret):=by
 cases ds <;> rfl
theorem retA_some {fn:Func} {t:Tm} {A:AW} {x x':Ctx} {o:Out} {A':AW} (h:retA P fn t A x=.ok o A' x'):∃ vs,ressA P t A fn.results.toList=some vs∧o=.ret (tupV vs)∧A'=A∧x'=x:=by
 unfold retA at h
 split at h
 ·rename_i vs hv; cases h; exact ⟨vs,hv,rfl,rfl,rfl⟩
 ·cases h
theorem stepCall_ok (hP:NoCount P) {r:Rec} (hR:RecOk P r) (hC:∀ n c,DoesOk P n [.code c] ((compC P n c).val r)) (f:FuncId):CallOk P f (stepCall P r f):=by
 intro φ A w args args' x kind cs hM ha hx
 unfold stepCall
 cases hb:bodyOf P f with
 | none=>exact trivial
 | some p =>
  obtain ⟨hf,h2⟩:=bodyOf_some hb
  simp only
  cases hbody:p.2 with
  | none=>exact trivial
  | some body =>
   simp only [lenL0]
   cases hl:(Nat.ble args.length p.1.ntmps && Nat.ble p.1.ntmps 60000) with
   | false=>exact trivial
   | true =>
    simp only [Bool.and_eq_true] at hl
    have hl1:=Nat.le_of_ble_eq_true hl.1
    have hl2:=Nat.le_of_ble_eq_true hl.2
    simp only [cond_true]
    rw [hbody] at h2
    generalize ha0:(⟨f,⟨args'⟩++Array.replicate (p.1.ntmps - args'.length) undef,[],kind,none⟩:Av)=a0
    have hstart:Frame.enter P f ⟨args'⟩ kind=a0.at [.code body]:=by
     rw [← ha0]
     simp [Frame.enter,Av.at,hf,← h2]
    have hH:Held φ w p.1.ntmps w.heap.size (enterT 0 args .nil) [] a0:=by
     rw [← ha0]
     exact ⟨enter_TR ha hl1 hl2,[],.nil,List.nodup_nil,by simp,fun _=>rfl⟩
    have hkd:a0.kind=kind:=by rw [← ha0]
    have hro:a0.roundOf=none:=by rw [← ha0]
    have hfn:a0.fn=f:=by rw [← ha0]
    have h:=hC p.1.ntmps body φ A w w.heap.size (enterT 0 args .nil) [] x a0 cs [] hM hH (Nat.le_refl _) (by rw [hkd,hro]; exact hx)
    rw [hstart]
    cases hy:(compC P p.1.ntmps body).val r (enterT 0 args .nil) [] A x with
    | fail=>exact trivial
    | ok ex t ds A1 x1 =>
     rw [hy] at h
     obtain ⟨φ1,w1,a1,cs1,fr1,g1,g2,g3,g4,g5,g6,g7,g8⟩:=h
     rw [hkd,hro] at g5
     have hk1:a1.kind=kind:=g4.kind.trans hkd
     have hro1:a1.roundOf=none:=g4.round.trans hro
     have hfn1:a1.fn=f:=g4.fn.trans hfn
     have hw:=g3.weak
     -- a frame that returns
     have retEnd:∀ {φ2:Inj} {A2:AW} {w2:World} {j:List Item},MR P φ2 A2 w2→Ext φ A w φ2 A2 w2→φ1.le φ2→Steps P (lone (a0.at [.code body]) cs w) (lone (({ a1 with defers:=[] }:Av).md j .returning) cs1 w2) →
       match retA P p.1 t A2 x1 with
       | .fail=>True
       | .ok o A' x'=>∃ φ' w' cs' fr',MR P φ' A' w'∧Ext φ A w φ' A' w'∧CtxR φ' x' kind none cs'∧(CsR (isPan x) cs cs'∧isPan x'=isPan x)∧OutOk P f kind φ' w' fr' o∧Steps P (lone (a0.at [.code body]) cs w) (lone fr' cs' w'):=by
      intro φ2 A2 w2 j q1 q2 q3 q4
      cases hq:retA P p.1 t A2 x1 with
      | fail=>exact trivial
      | ok o A' x' =>
       obtain ⟨vs,e1,rfl,rfl,rfl⟩:=retA_some hq
       have hT:TRw φ2 t a1.tmps:=fun i=>(hw.tmps i).imp id fun h=>h.mono q3
       obtain ⟨v',e2,e3⟩:=results_ok q1 hT e1
       exact ⟨φ2,w2,cs1,_,q1,q2,g5.mono q3,g6,⟨hfn1,hk1,rfl,p.1,hf,rfl,v',e2,e3⟩,q4⟩
     -- a frame that is to return
     have leave:Steps P (lone fr1 cs1 w1) (lone (a1.md (match fr1.todo with | k=>k) .returning) cs1 w1) →
       match leaveR P r p.1 t ds A1 x1 with
       | .fail=>True
       | .ok o A' x'=>∃ φ' w' cs' fr',MR P φ' A' w'∧Ext φ A w φ' A' w'∧CtxR φ' x' kind none cs'∧(CsR (isPan x) cs cs'∧isPan x'=isPan x)∧OutOk P f kind φ' w' fr' o∧Steps P (lone (a0.at [.code body]) cs w) (lone fr' cs' w'):=by
      intro hst
      rw [leaveR_eq]
      have he:=call_end hP hR (cs:=cs1) (j:=fr1.todo) g1 g2 hw.defers hro1 (y:=.ret) (m:=.returning) (.inl ⟨rfl,rfl⟩)
      cases hd:deferA P r ds A1 .ret with
      | fail=>exact trivial
      | ok A2 y2 =>
       rw [hd] at he
       obtain ⟨φ2,w2,m2,e1,e2,e3,e4,e5⟩:=he
       simp only [retK]
       rcases e3 with ⟨rfl,rfl⟩ | ⟨v2,v2',rfl,_⟩
       ·exact retEnd e1 e2 e4 (g8.trans (hst.trans e5))
       ·exact trivial
     cases ex with
     | normal =>
      have g7:fr1=a1.at []:=g7
      refine leave ?_
      subst g7
      exact go1 (by simp [stepG,stepG.exec,Av.at,Av.md,hro1])
     | ret =>
      obtain ⟨j,g7⟩:=g7
      refine leave ?_
      subst g7
      exact go1 (by simp [stepG,stepG.exec,Av.at,Av.md,hro1])
     | exit id=>exact trivial
     | panic v =>
      obtain ⟨j,v',g7,g9,g10⟩:=g7
      subst g7
      simp only [callE]
      rw [leaveP_eq]
      have he:=call_end hP hR (cs:=cs1) (j:=j) g1 g2 hw.defers hro1 (y:=.pan v false) (m:=.panicking [{ v:=v',recovered:=false }]) (.inr ⟨v,v',rfl,rfl,g9⟩)
      cases hd:deferA P r ds A1 (.pan v false) with
      | fail=>exact trivial
      | ok A2 y2 =>
       rw [hd] at he
       obtain ⟨φ2,w2,m2,e1,e2,e3,e4,e5⟩:=he
       have hst:Steps P (lone (a0.at [.code body]) cs w) (lone (({ a1 with defers:=[] }:Av).md j m2) cs1 w2):=g8.trans e5
       rcases e3 with ⟨rfl,rfl⟩ | ⟨v2,v2',rfl,rfl,hv2⟩
       ·exact retEnd e1 e2 e4 hst
       ·exact ⟨φ2,w2,cs1,_,e1,e2,g5.mono e4,g6,⟨hfn1,hk1,rfl,p.1,hf,v2',rfl,hv2⟩,hst⟩
end Go.Sh
