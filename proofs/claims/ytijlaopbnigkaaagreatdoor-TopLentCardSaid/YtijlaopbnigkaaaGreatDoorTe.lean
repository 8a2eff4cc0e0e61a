/- Part of a proof: see the text with the theorem. -/
import Derived.Test.YtijlaopbnigkaaaGreatDoorTd
import Derived.Test.YtijlaopbnigkaaaGreatDoorTa
import Derived.Test.YtijlaopbnigkaaaGreatDoorShF
set_option linter.all false
namespace Go.Proofs.YtijlaopbnigkaaaGreatDoor.walk
open Go Go.Sh
set_option maxRecDepth 100000
def arC (x:Int→Int):List Value:=[.int .i64 (x 0),.int .i64 (x 1),.int .i64 (x 2),.int .i64 (x 3),.int .i64 (x 4),.int .i64 (x 5),.int .i64 (x 6),.int .i64 (x 7)]
@[simp] theorem arC_len (x:Int→Int):(arC x).length=8:=by simp [arC]
theorem arC_drop (x:Int→Int):(arC x).drop 8=[]:=rfl
@[simp] theorem arC_take (x:Int→Int):(arC x).take 8=arC x:=rfl
@[simp] theorem arC_singles (x:Int→Int):singles (arC x)=true:=by simp [arC]
theorem lt8 {k:Nat} (h:k < 8):k=0∨k=1∨k=2∨k=3∨k=4∨k=5∨k=6∨k=7:=by omega
theorem arC_get (x:Int→Int) {k:Nat} (h:k < 8):(arC x)[k]?=some (.int .i64 (x (k:Int))):=by
 rcases lt8 h with rfl | rfl | rfl | rfl | rfl | rfl | rfl | rfl <;> rfl
@[simp] theorem arC_getE (x:Int→Int) {k:Nat} (h:k < (arC x).length):(arC x)[k]=.int .i64 (x (k:Int)):=by
 have:=arC_get x (k:=k) (by simpa using h)
 rw [List.getElem?_eq_getElem h] at this
 simpa using this
def updF (x:Int→Int) (k v:Int):Int→Int:=fun p=>if p=k then v else x p
theorem arC_set (x:Int→Int) (v:Int) {k:Nat} (h:k < 8):(arC x).take k++(.int .i64 v::(arC x).drop (k + 1))=arC (updF x (k:Int) v):=by
 rcases lt8 h with rfl | rfl | rfl | rfl | rfl | rfl | rfl | rfl <;> simp [arC,updF]
theorem arC_at {x y:Int→Int} (h:arC x=arC y) {k:Nat} (hk:k < 8):x (k:Int)=y (k:Int):=by
 have h1:=arC_get x hk
 have h2:=arC_get y hk
 rw [h,h2] at h1
 simpa using h1.symm
def Z8 (x:Int→Int):Prop:=∀ p,p < 0∨8≤p→x p=0
theorem arC_uniq {x y:Int→Int} (hx:Z8 x) (hy:Z8 y) (h:arC x=arC y):x=y:=by
 funext p
 by_cases hp:p < 0∨8≤p
 ·rw [hx p hp,hy p hp]
 ·have:=arC_at h (k:=p.toNat) (by omega)
  rwa [show ((p.toNat:Nat):Int)=p by omega] at this
theorem arr61:arrN Tryz.prog 76=some (8,3):=by kernel_rfl
theorem size3:szOf Tryz.prog 3=some 1:=by kernel_rfl
theorem ia76 (w:AW) (a:Addr) (k:IntKind) {i:Nat} (h:i < 8):indexAddrA Tryz.prog w 76 (.pointer (some a)) (.int k (i:Int))=.val (.pointer (some (a.add i))) w:=by
 show indexAddrC Tryz.prog w 76 (.pointer (some a)) (Int.ofNat i)=_
 have h1:Nat.blt i 8=true:=by simpa [Nat.blt_eq] using h
 unfold indexAddrC
 simp only [arr61]
 show (bif Nat.ble 8 1 then R.fail else indexAddrB Tryz.prog w a 8 3 (Int.ofNat i))=_
 have h2:Nat.ble 8 1=false:=rfl
 rw [h2]
 simp [indexAddrB,idxIn,h1,size3]
theorem arrp3 (cs:List Value) (i:Nat) (v:Value) (h:cs[i]?=some v):partA Tryz.prog 3 cs i=some v:=by
 have h1:aggOf Tryz.prog 3=some false:=by kernel_rfl
 unfold partA
 simp [h1,nth_eq,h]
theorem ix76 (w:AW) (x:Int→Int) (k:IntKind) {i:Nat} (h:i < 8):indexA Tryz.prog w 76 (.agg ⟨arC x⟩) (.int k (i:Int))=.val (.int .i64 (x (i:Int))) w:=by
 show indexArr Tryz.prog w 76 (arC x) (Int.ofNat i)=_
 have h1:Nat.blt i 8=true:=by simpa [Nat.blt_eq] using h
 unfold indexArr
 simp [arr61,idxIn,h1,size3,arrp3 _ _ _ (arC_get x h)]
theorem al76' (w:AW):allocA Tryz.prog w 76=.val (.pointer (some ⟨w.next,0,none⟩)) ⟨w.heap.put w.next (some (.cells (arC fun _=>0) 76 false)),w.next + 1,w.lim⟩:=al76 w
def ptC (p:Pt):List Value:=[.string p.nm,.int .i64 p.ch]
def dtC (d:Dt):List Value:=[.int .i64 d.f,.int .i64 d.t,.int .i64 d.c]
@[simp] theorem ptC_length (p:Pt):(ptC p).length=2:=rfl
@[simp] theorem dtC_length (d:Dt):(dtC d).length=3:=rfl
theorem ptC_inj (a b:Pt) (h:ptC a=ptC b):a=b:=by
 cases a; cases b; simp [ptC] at h; simp [h]
theorem dtC_inj (a b:Dt) (h:dtC a=dtC b):a=b:=by
 cases a; cases b; simp [dtC] at h; simp [h]
def CapN (v:Value):Prop:=∃ a n c,v=.slice a n c∧n≤c
structure LedV (w:AW) (pv dv:Value) (ps:List Pt) (ds:List Dt):Prop where
 p:RowsV ptC w pv ps
 d:RowsV dtC w dv ds
 cp:CapN pv
 cd:CapN dv
theorem LedV.up {w w':AW} {pv dv:Value} {ps:List Pt} {ds:List Dt} (h:LedV w pv dv ps ds) (u:Up w w'):LedV w' pv dv ps ds:=⟨h.p.up u,h.d.up u,h.cp,h.cd⟩
theorem LedV.uniqP {w:AW} {pv dv:Value} {ps ps':List Pt} {ds ds':List Dt} (h:LedV w pv dv ps ds) (k:LedV w pv dv ps' ds'):ps=ps':=h.p.uniq (m:=2) ptC_length ptC_inj k.p
theorem LedV.uniqD {w:AW} {pv dv:Value} {ps ps':List Pt} {ds ds':List Dt} (h:LedV w pv dv ps ds) (k:LedV w pv dv ps' ds'):ds=ds':=h.d.uniq (m:=3) dtC_length dtC_inj k.d
theorem LedV.shut {w:AW} {pv dv:Value} {ps:List Pt} {ds:List Dt} (h:LedV w pv dv ps ds):LedV (shutA w) pv dv ps ds:=⟨h.p,h.d,h.cp,h.cd⟩
def l63 (pv dv:Value) (o:Int→Int):List Value:=pv::dv::arC o
theorem l63_inj {pv dv pv' dv':Value} {o o':Int→Int} (h:l63 pv dv o=l63 pv' dv' o'):pv=pv'∧dv=dv'∧arC o=arC o':=by
 simp only [l63,List.cons.injEq] at h
 exact h
theorem l63_at (pv dv:Value) (o:Int→Int) {k:Nat} (h:k < 8):(pv::dv::arC o)[2 + k]?=some (.int .i64 (o (k:Int))):=by
 rw [show 2 + k=k + 1 + 1 by omega,List.getElem?_cons_succ,List.getElem?_cons_succ,arC_get _ h]
@[simp] theorem l63_0 (pv dv:Value) (o:Int→Int):(pv::dv::arC o)[0]?=some pv:=rfl
@[simp] theorem l63_2 (v:Value) (o:Int→Int):(v::arC o)[0]?=some v:=rfl
@[simp] theorem l63_1 (pv dv:Value) (o:Int→Int):(pv::dv::arC o)[1]?=some dv:=rfl
theorem LOk.z8 {M:Int} {ps:List Pt} {ds:List Dt} (h:LOk M ps ds):Z8 (owD ds):=fun p hp=>h.ow_out (by have:=h.n8; omega)
theorem LOk.ha8 {M:Int} {ps:List Pt} {ds:List Dt} (h:LOk M ps ds) (x:Int→Int):Z8 (haD ps ds x):=fun p hp=>by
 have h8:=h.n8
 have h1:=h.in_out x (p:=p) (by omega)
 have h2:=ca_out (ps:=ps) (p:=p) (by omega)
 unfold haD; omega
theorem LOk.nx8 {M:Int} {ps:List Pt} {ds:List Dt} (h:LOk M ps ds) (x:Int→Int):Z8 (nxD ps ds x):=fun p hp=>by
 have h1:=h.ha8 x p hp
 have h2:=h.z8 p hp
 unfold nxD; omega
def S50:PSpec where
 R args w v:=∃ (pv dv:Value) (o x:Int→Int) (d:Dt),args=[.agg ⟨l63 pv dv o⟩,.agg ⟨dtC d⟩,.agg ⟨arC x⟩]∧(0≤d.f∧d.f < 8)∧(1≤d.c∧d.c≤100000)∧(0≤x d.f∧x d.f≤2000000)∧0 < o d.f∧v=.int .i64 (ptD o x d)
 uniq:=by
  rintro _ _ _ _ ⟨pv,dv,o,x,d,rfl,hf,_,_,_,rfl⟩ ⟨pv',dv',o',x',d',e,_,_,_,_,rfl⟩
  simp only [List.cons.injEq,Value.agg.injEq,Array.mk.injEq,and_true] at e
  obtain ⟨e1,e2,e3⟩:=e
  have:=dtC_inj _ _ e2
  subst this
  obtain ⟨_,_,e4⟩:=l63_inj e1
  have h1:=arC_at e3 (k:=d.f.toNat) (by omega)
  have h2:=arC_at e4 (k:=d.f.toNat) (by omega)
  rw [show ((d.f.toNat:Nat):Int)=d.f by omega] at h1 h2
  unfold ptD
  rw [h1,h2]
 shut h:=h
theorem run50 {ov:Ov} (ho:∀ args w,ov 50 args w=none) (pv dv:Value) (o x:Int→Int) (d:Dt) (w:AW) (hl:w.lim=w.next) (hf:0≤d.f∧d.f < 8) (hc:1≤d.c∧d.c≤100000) (hx:0≤x d.f∧x d.f≤2000000) (hO:0 < o d.f) :
  ∃ v w',(run Tryz.prog ov 2).call 50 [.agg ⟨l63 pv dv o⟩,.agg ⟨dtC d⟩,.agg ⟨arC x⟩] w .none=.ok (.ret v) w' .none∧v=.int .i64 (ptD o x d):=by
 refine call_wp text50 (by simp) (ho _ _) ?_
 obtain ⟨f,t,c⟩:=d
 simp only at hf hc hx hO
 obtain ⟨k,rfl⟩:∃ k:Nat,f=(k:Int):=⟨f.toNat,by omega⟩
 have hk:k < 8:=by omega
 have hia:=fun w a=>ia76 w a .i64 hk
 have g1:=arC_get x hk
 have g2:=l63_at pv dv o hk
 obtain ⟨X,hX⟩:∃ X,X=x (k:Int):=⟨_,rfl⟩
 obtain ⟨O,hOe⟩:∃ O,O=o (k:Int):=⟨_,rfl⟩
 rw [← hX] at g1 hx
 rw [← hOe] at g2 hO
 have e:ptD o x ⟨(k:Int),t,c⟩=X * c / O:=by simp only [ptD,← hX,← hOe]
 have h0:0≤X * c:=Int.mul_nonneg hx.1 (by omega)
 have h1:X * c≤2000000 * 100000:=Int.mul_le_mul hx.2 hc.2 (by omega) (by omega)
 have w1:IntKind.wrap .i64 (X * c)=X * c:=wrap64_in (by omega) (by omega)
 have hq:=fun (cc:Bool) w=>bin_quo (P:=Tryz.prog) (w:=w) 3 cc .i64 (X * c) O (by omega)
 have h2:=Int.tdiv_eq_ediv_of_nonneg h0 (b:=O)
 have h3:0≤X * c / O:=Int.ediv_nonneg h0 (by omega)
 have h4:X * c / O≤X * c:=Int.ediv_le_self _ h0
 have w2:IntKind.wrap .i64 (X * c / O)=X * c / O:=wrap64_in (by omega) (by omega)
 simp [mc50,cellsOf_agg,l63,dtC,hia,g1,g2,w1,hq,h2,w2,tupV,e]
structure Kp (B:Nat) (we w:AW):Prop where
 old:∀ q,q < we.next→q ≠ B→w.heap.get q=we.heap.get q
 next:we.next≤w.next
 lim:w.lim=we.lim
theorem Kp.refl (B:Nat) (w:AW):Kp B w w:=⟨fun _ _ _=>rfl,Nat.le_refl _,rfl⟩
theorem Kp.new {B:Nat} {we:AW} {H:T AObj} {n n' l k:Nat} {o:Option AObj} (h:Kp B we ⟨H,n,l⟩) (hk:we.next≤k∨k=B) (hn:n≤n'):Kp B we ⟨H.put k o,n',l⟩ :=
 ⟨fun q hq hb=>by
  show (H.put k o).get q=_
  rw [get_put,if_neg (by omega)]; exact h.old q hq hb,Nat.le_trans h.next hn,h.lim⟩
theorem Kp.up {B:Nat} {w we w':AW} (u:Up w we) (h:Kp B we w') (hB:w.next≤B):Up w w' :=
 ⟨fun q hq=>by have:=u.next; rw [h.old q (by omega) (by omega)]; exact u.old q hq,Nat.le_trans u.next h.next,h.lim.trans u.lim⟩
theorem Kp.trans {B:Nat} {a b c:AW} (h:Kp B a b) (k:Kp B b c):Kp B a c:=⟨fun q h1 h2=>(k.old q (by have:=h.next; omega) h2).trans (h.old q h1 h2),Nat.le_trans h.next k.next,k.lim.trans h.lim⟩
abbrev LK (ps:List Pt) (ds:List Dt):Prop:=LOk 2000000 ps ds
theorem sI_bd {g:Dt→Int} {l:List Dt} (h:∀ d ∈ l,0≤g d∧g d≤100000) (hl:l.length≤16):0≤sI g l∧sI g l≤1600000:=by
 have h1:sI g l≤sI (fun _=>100000) l:=sI_le fun d hd=>(h d hd).2
 rw [sI_const] at h1
 have h2:0≤sI g l:=sI_nonneg fun d hd=>(h d hd).1
 omega
theorem sI_step {g:Dt→Int} {l:List Dt} {i:Nat} {d:Dt} (h:l[i]?=some d):sI g (l.take (i + 1))=sI g (l.take i) + g d:=by
 rw [List.take_add_one,h,sI_app]; simp [sI]
def caK (ps:List Pt) (i:Nat):Int→Int:=fun p=>if p < (i:Int) then caP ps p else 0
theorem caK_zero (ps:List Pt):caK ps 0=fun _=>0:=by
 funext p
 unfold caK
 split
 ·rw [ca_out (.inl (by omega))]
 ·rfl
theorem caK_step {ps:List Pt} {i:Nat} {a:Pt} (h:ps[i]?=some a):updF (caK ps i) (i:Int) a.ch=caK ps (i + 1):=by
 funext p
 unfold updF caK
 by_cases h1:p=(i:Int)
 ·subst h1
  rw [if_pos rfl,if_pos (by omega),ca_at h]
 ·rw [if_neg h1]
  by_cases h2:p < (i:Int)
  ·rw [if_pos h2,if_pos (by omega)]
  ·rw [if_neg h2,if_neg (by omega)]
theorem caK_all (ps:List Pt):caK ps ps.length=caP ps:=by
 funext p
 unfold caK
 split
 ·rfl
 ·rw [ca_out (.inr (by omega))]
def inF (o x:Int→Int) (ds:List Dt) (i:Nat) (p:Int):Int:=sI (fun d=>if d.t=p then ptD o x d else 0) (ds.take i)
def haF (ps:List Pt) (o x:Int→Int) (ds:List Dt) (i:Nat):Int→Int:=fun p=>caP ps p + inF o x ds i p
theorem haF_zero (ps:List Pt) (o x:Int→Int) (ds:List Dt):haF ps o x ds 0=caP ps:=by
 funext p; simp [haF,inF,sI]
theorem haF_all (ps:List Pt) (x:Int→Int) (ds:List Dt):haF ps (owD ds) x ds ds.length=haD ps ds x:=by
 funext p; simp [haF,inF,haD,inD]
theorem haF_step {ps:List Pt} {o x:Int→Int} {ds:List Dt} {i:Nat} {d:Dt} (h:ds[i]?=some d):updF (haF ps o x ds i) d.t (haF ps o x ds i d.t + ptD o x d)=haF ps o x ds (i + 1):=by
 funext p
 unfold updF haF inF
 rw [sI_step h]
 by_cases h1:p=d.t
 ·subst h1
  simp only [if_true]; omega
 ·have h2:¬ d.t=p:=fun e=>h1 e.symm
  simp only [if_neg h1,if_neg h2]; omega
section
variable {ps:List Pt} {ds:List Dt} {x:Int→Int}
theorem pt_bd (h:LK ps ds) (hx:∀ p,0≤x p∧x p≤owD ds p) {d:Dt} (hd:d ∈ ds):0≤ptD (owD ds) x d∧ptD (owD ds) x d≤100000:=by
 have h1:=h.pt_in hx hd
 have h2:=(h.debt d hd).2.2.2.2
 omega
theorem haF_bd (h:LK ps ds) (hx:∀ p,0≤x p∧x p≤owD ds p) (i:Nat) (p:Int):0≤haF ps (owD ds) x ds i p∧haF ps (owD ds) x ds i p≤3600000:=by
 have h1:=h.ca p
 have h2:=sI_bd (g:=fun d=>if d.t=p then ptD (owD ds) x d else 0) (l:=ds.take i) (fun d hd=>by
  have:=pt_bd h hx (List.mem_of_mem_take hd)
  show 0≤(if d.t=p then ptD (owD ds) x d else 0)∧(if d.t=p then ptD (owD ds) x d else 0)≤100000
  split <;> omega) (by have:=h.d16; rw [List.length_take]; omega)
 unfold haF inF
 omega
end
def S49:PSpec where
 R args w v:=∃ (pv dv:Value) (ps:List Pt) (ds:List Dt) (x:Int→Int),args=[.agg ⟨l63 pv dv (owD ds)⟩,.agg ⟨arC x⟩]∧LedV w pv dv ps ds∧LK ps ds∧(∀ p,0≤x p∧x p≤owD ds p)∧v=.agg ⟨arC (haD ps ds x)⟩
 uniq:=by
  rintro _ _ _ _ ⟨pv,dv,ps,ds,x,rfl,hL,hk,hx,rfl⟩ ⟨pv',dv',ps',ds',x',e,hL',hk',hx',rfl⟩
  simp only [List.cons.injEq,Value.agg.injEq,Array.mk.injEq,and_true] at e
  obtain ⟨e1,e2⟩:=e
  obtain ⟨rfl,rfl,_⟩:=l63_inj e1
  have:=hL.uniqP hL'
  subst this
  have:=hL.uniqD hL'
  subst this
  have z:=hk.z8
  have:=arC_uniq (fun p hp=>by have h1:=z p hp; have h2:=hx p; omega) (fun p hp=>by have h1:=z p hp; have h2:=hx' p; omega) e2
  subst this; rfl
 shut:=by
  rintro _ _ _ ⟨pv,dv,ps,ds,x,h1,h2,h3⟩
  exact ⟨pv,dv,ps,ds,x,h1,h2.shut,h3⟩
theorem run49 {ov:Ov} (ho:∀ args w,ov 49 args w=none) (h63:HasP ov 50 S50.F) (pv dv:Value) (ps:List Pt) (ds:List Dt) (x:Int→Int) (w:AW) (hl:w.lim=w.next) (hL:LedV w pv dv ps ds) (hk:LK ps ds) (hx:∀ p,0≤x p∧x p≤owD ds p) :
  ∃ v w',(run Tryz.prog ov 2).call 49 [.agg ⟨l63 pv dv (owD ds)⟩,.agg ⟨arC x⟩] w .none=.ok (.ret v) w' .none∧v=.agg ⟨arC (haD ps ds x)⟩:=by
 refine call_wp text49 (by simp) (ho _ _) ?_
 have hl22:=fun w2=>len37V (w':=w2) hL.p
 have hl23:=fun w2=>len38V (w':=w2) hL.d
 have h8:=hk.n8
 have h16:=hk.d16
 obtain ⟨w1,hw1⟩:∃ w1,w1=(⟨(((w.heap.put w.next (some (.cells (l63 pv dv (owD ds)) 78 false))).put (w.next + 1) (some (.cells (arC x) 76 false))).put (w.next + 2) (some (.cells (arC fun _=>0) 76 false))).put (w.next + 3) (some (.cells (arC fun _=>0) 76 false)),w.next + 4,w.lim⟩:AW):=⟨_,rfl⟩
 have u1:Up w w1:=by
  rw [hw1]
  exact ((((Up.refl w).put (Nat.le_refl _) (Nat.le_refl _)).put (Nat.le_succ _) (Nat.le_refl _)).put (by omega) (Nat.le_refl _)).put (by omega) (by omega)
 have n1:w1.next=w.next + 4:=by rw [hw1]
 have m1:w1.lim=w.lim:=by rw [hw1]
 have a2:w1.heap.get w.next=some (.cells (pv::dv::arC (owD ds)) 78 false):=by rw [hw1]; simp [l63]
 have a3:w1.heap.get (w.next + 1)=some (.cells (arC x) 76 false):=by rw [hw1]; simp
 have a4:w1.heap.get (w.next + 2)=some (.cells (arC fun _=>0) 76 false):=by rw [hw1]; simp
 have a5:w1.heap.get (w.next + 3)=some (.cells (arC (caK ps 0)) 76 false):=by rw [hw1,caK_zero]; simp
 simp [mc49,cellsOf_agg,l63,al76', -al76,hl22,hl23]
 rw [show (⟨(((w.heap.put w.next (some (.cells (pv::dv::arC (owD ds)) 78 false))).put (w.next + 1) (some (.cells (arC x) 76 false))).put (w.next + 1 + 1) (some (.cells (arC fun _=>0) 76 false))).put (w.next + 1 + 1 + 1) (some (.cells (arC fun _=>0) 76 false)),w.next + 1 + 1 + 1 + 1,w.lim⟩:AW)=w1 from by rw [hw1]; rfl]
 refine wp_seqX (wp_blockX (wp_rounds (fun i t w'=>Kp (w.next + 3) w1 w'∧w'.heap.get (w.next + 3)=some (.cells (arC (caK ps i)) 76 false)∧tget t 2=.pointer (some ⟨w.next,0,none⟩)∧tget t 3=.pointer (some ⟨w.next + 1,0,none⟩)∧tget t 4=.pointer (some ⟨w.next + 2,0,none⟩)∧tget t 5=.pointer (some ⟨w.next + 3,0,none⟩)∧tget t 12=pv∧tget t 13=.int .i64 (ps.length:Nat)∧tget t 14=.int .i64 (i:Nat)∧i≤ps.length) 20 (by decide) ⟨Kp.refl _ _,a5,by simp,by simp,by simp,by simp,by simp,by simp,by simp,Nat.zero_le _⟩ ?_))
 rintro i t w' ⟨hkp,g5,t2,t3,t4,t5,t12,t13,t14,hi⟩
 have hw1':IntKind.wrap .i64 ((i:Int) + 1)=(i:Int) + 1:=wrap64_in (by omega) (by omega)
 have hlm:=hkp.lim
 have hnx:=hkp.next
 by_cases hlt:i < ps.length
 ·obtain ⟨a,ha⟩:∃ a,ps[i]?=some a:=⟨_,List.getElem?_eq_getElem hlt⟩
  obtain ⟨b,off,sq,c,rfl,hra⟩:=(hL.p.up (hkp.up u1 (by omega))).at_ i hlt
  have hld:=hra.rd ptC_length ha
  have hia:=fun w=>ia37 w ⟨b,off,sq⟩ ps.length c .i64 i hlt
  have hia6:=fun w a=>ia76 w a .i64 (show i < 8 by omega)
  simp only [ptC] at hld
  have hst:=caK_step ha
  have q1:¬ w.next + 3=w'.next:=by omega
  have q5:w'.lim≤w'.next:=by omega
  have q2:w'.lim≤w.next + 3:=by omega
  have q3:i≤7:=by omega
  have q4:i < 8:=by omega
  simp [mc49_l0,t2,t3,t4,t5,t12,t13,t14,hlt,hia,hld,hia6,g5,q1,q5,q2,q3,q4,arC_set,hst,hw1']
  refine ⟨by omega,?_,by omega⟩
  exact ((hkp.new (.inl hnx) (Nat.le_refl _)).new (.inl hnx) (Nat.le_refl _)).new (.inr rfl) (Nat.le_succ _)
 ·have hi':i=ps.length:=by omega
  subst hi'
  have b2:w'.heap.get w.next=some (.cells (pv::dv::arC (owD ds)) 78 false):=by rw [hkp.old _ (by omega) (by omega)]; exact a2
  simp [mc49_l0,t2,t3,t4,t5,t12,t13,t14,b2,hl23]
  rw [caK_all,← haF_zero ps (owD ds) x ds] at g5
  refine wp_seqX (wp_blockX (wp_rounds (fun i t w2=>Kp (w.next + 3) w1 w2∧w2.heap.get (w.next + 3)=some (.cells (arC (haF ps (owD ds) x ds i)) 76 false)∧tget t 2=.pointer (some ⟨w.next,0,none⟩)∧tget t 3=.pointer (some ⟨w.next + 1,0,none⟩)∧tget t 4=.pointer (some ⟨w.next + 2,0,none⟩)∧tget t 5=.pointer (some ⟨w.next + 3,0,none⟩)∧tget t 26=dv∧tget t 27=.int .i64 (ds.length:Nat)∧tget t 28=.int .i64 (i:Nat)∧i≤ds.length) 20 (by decide) ⟨hkp,g5,by simp [t2],by simp [t3],by simp [t4],by simp [t5],by simp,by simp,by simp,Nat.zero_le _⟩ ?_))
  clear hkp g5 t2 t3 t4 t5 t12 t13 t14 hlm hnx b2
  rintro i t w' ⟨hkp,g5,t2,t3,t4,t5,t26,t27,t28,hi⟩
  have hlm:=hkp.lim
  have hnx:=hkp.next
  by_cases hlt:i < ds.length
  ·obtain ⟨d,hd⟩:∃ a,ds[i]?=some a:=⟨_,List.getElem?_eq_getElem hlt⟩
   have hdm:=List.mem_of_getElem? hd
   obtain ⟨b,off,sq,c,rfl,hra⟩:=(hL.d.up (hkp.up u1 (by omega))).at_ i hlt
   have hld:=hra.rd dtC_length hd
   have hia:=fun w=>ia38 w ⟨b,off,sq⟩ ds.length c .i64 i hlt
   have hdb:=hk.debt d hdm
   have hxf:=hx d.f
   have hol:=hk.ow_le d.f
   have hop:=hk.ow_pos hdm
   have hpb:=pt_bd hk hx hdm
   have hhb:=haF_bd hk hx i d.t
   have r63:=fun w=>S50.call1 (P:=Tryz.prog) h63 (w:=w) ⟨pv,.slice (some ⟨b,off,sq⟩) ds.length c,owD ds,x,d,rfl,⟨hdb.1.1,by omega⟩,hdb.2.2.2,⟨hxf.1,by omega⟩,by omega,rfl⟩
   have hst0:=haF_step (ps:=ps) (o:=owD ds) (x:=x) hd
   obtain ⟨V,hV⟩:∃ V,V=ptD (owD ds) x d:=⟨_,rfl⟩
   rw [← hV] at r63 hpb hst0
   obtain ⟨f,tt,cc⟩:=d
   simp only at hdb hhb hst0
   obtain ⟨k,rfl⟩:∃ k:Nat,tt=(k:Int):=⟨tt.toNat,by omega⟩
   have hk8:k < 8:=by omega
   have hia6:=fun w a=>ia76 w a .i64 hk8
   simp only [dtC] at hld r63
   have hgt:=arC_get (haF ps (owD ds) x ds i) hk8
   obtain ⟨U,hU⟩:∃ U,U=haF ps (owD ds) x ds i (k:Int):=⟨_,rfl⟩
   rw [← hU] at hgt hhb hst0
   have w1':IntKind.wrap .i64 (U + V)=U + V:=wrap64_in (by omega) (by omega)
   have w2':IntKind.wrap .i64 ((i:Int) + 1)=(i:Int) + 1:=wrap64_in (by omega) (by omega)
   have b2:w'.heap.get w.next=some (.cells (pv::.slice (some ⟨b,off,sq⟩) ds.length c::arC (owD ds)) 78 false):=by rw [hkp.old _ (by omega) (by omega)]; exact a2
   have b3:w'.heap.get (w.next + 1)=some (.cells (arC x) 76 false):=by rw [hkp.old _ (by omega) (by omega)]; exact a3
   have q0:¬ w.next=w'.next:=by omega
   have q01:¬ w.next + 1=w'.next:=by omega
   have q1:¬ w.next + 3=w'.next:=by omega
   have q5:w'.lim≤w'.next:=by omega
   have q2:w'.lim≤w.next + 3:=by omega
   have q3:k≤7:=by omega
   simp only [l63] at r63
   simp [mc49_l1,t2,t3,t4,t5,t26,t27,t28,hlt,hia,hld,hia6,hgt,hU.symm,b2,b3,g5,q0,q01,q1,q5,q2,q3,hk8,arC_set,r63,hst0,w1',w2']
   refine ⟨by omega,?_,by omega⟩
   exact ((hkp.new (.inl hnx) (Nat.le_refl _)).new (.inl hnx) (Nat.le_refl _)).new (.inr rfl) (Nat.le_succ _)
  ·have hi':i=ds.length:=by omega
   subst hi'
   rw [haF_all] at g5
   have b4:w'.heap.get (w.next + 2)=some (.cells (arC fun _=>0) 76 false):=by rw [hkp.old _ (by omega) (by omega)]; exact a4
   have q2:w'.lim≤w.next + 2:=by omega
   simp [mc49_l1,t2,t3,t4,t5,t26,t27,t28,g5,b4,q2,arC_drop,cellsOf_agg,tupV]
def leK (ps:List Pt) (ds:List Dt) (x:Int→Int) (i:Nat):Int→Int:=fun p=>if p < (i:Int) then nxD ps ds x p else haD ps ds x p
theorem leK_zero {ps:List Pt} {ds:List Dt} (h:LK ps ds) (x:Int→Int):leK ps ds x 0=haD ps ds x:=by
 funext p
 unfold leK
 split
 ·rw [h.nx8 x p (by omega),h.ha8 x p (by omega)]
 ·rfl
theorem leK_step (ps:List Pt) (ds:List Dt) (x:Int→Int) (i:Nat):updF (leK ps ds x i) (i:Int) (min (leK ps ds x i (i:Int)) (owD ds (i:Int)))=leK ps ds x (i + 1):=by
 funext p
 unfold updF leK
 by_cases h1:p=(i:Int)
 ·subst h1
  rw [if_pos rfl,if_neg (by omega),if_pos (by omega)]; rfl
 ·rw [if_neg h1]
  by_cases h2:p < (i:Int)
  ·rw [if_pos h2,if_pos (by omega)]
  ·rw [if_neg h2,if_neg (by omega)]
theorem leK_all {ps:List Pt} {ds:List Dt} (h:LK ps ds) (x:Int→Int):leK ps ds x 8=nxD ps ds x:=by
 funext p
 unfold leK
 split
 ·rfl
 ·rw [h.nx8 x p (by omega),h.ha8 x p (by omega)]
def S51:PSpec where
 R args w v:=∃ (pv dv:Value) (ps:List Pt) (ds:List Dt) (x:Int→Int),args=[.agg ⟨l63 pv dv (owD ds)⟩,.agg ⟨arC x⟩]∧LedV w pv dv ps ds∧LK ps ds∧(∀ p,0≤x p∧x p≤owD ds p)∧v=.agg ⟨arC (nxD ps ds x)⟩
 uniq:=by
  rintro _ _ _ _ ⟨pv,dv,ps,ds,x,rfl,hL,hk,hx,rfl⟩ ⟨pv',dv',ps',ds',x',e,hL',hk',hx',rfl⟩
  simp only [List.cons.injEq,Value.agg.injEq,Array.mk.injEq,and_true] at e
  obtain ⟨e1,e2⟩:=e
  obtain ⟨rfl,rfl,_⟩:=l63_inj e1
  have:=hL.uniqP hL'
  subst this
  have:=hL.uniqD hL'
  subst this
  have z:=hk.z8
  have:=arC_uniq (fun p hp=>by have h1:=z p hp; have h2:=hx p; omega) (fun p hp=>by have h1:=z p hp; have h2:=hx' p; omega) e2
  subst this; rfl
 shut:=by
  rintro _ _ _ ⟨pv,dv,ps,ds,x,h1,h2,h3⟩
  exact ⟨pv,dv,ps,ds,x,h1,h2.shut,h3⟩
theorem run51 {ov:Ov} (ho:∀ args w,ov 51 args w=none) (h44:HasP ov 49 S49.F) (pv dv:Value) (ps:List Pt) (ds:List Dt) (x:Int→Int) (w:AW) (hl:w.lim=w.next) (hL:LedV w pv dv ps ds) (hk:LK ps ds) (hx:∀ p,0≤x p∧x p≤owD ds p) :
  ∃ v w',(run Tryz.prog ov 2).call 51 [.agg ⟨l63 pv dv (owD ds)⟩,.agg ⟨arC x⟩] w .none=.ok (.ret v) w' .none∧v=.agg ⟨arC (nxD ps ds x)⟩:=by
 refine call_wp text51 (by simp) (ho _ _) ?_
 obtain ⟨w1,hw1⟩:∃ w1,w1=(⟨((w.heap.put w.next (some (.cells (l63 pv dv (owD ds)) 78 false))).put (w.next + 1) (some (.cells (arC x) 76 false))).put (w.next + 2) (some (.cells (arC fun _=>0) 76 false)),w.next + 3,w.lim⟩:AW):=⟨_,rfl⟩
 have u1:Up w w1:=by
  rw [hw1]
  exact (((Up.refl w).put (Nat.le_refl _) (Nat.le_refl _)).put (Nat.le_succ _) (Nat.le_refl _)).put (by omega) (by omega)
 have r44:=S49.call1 (P:=Tryz.prog) h44 (w:=w1) ⟨pv,dv,ps,ds,x,rfl,hL.up u1,hk,hx,rfl⟩
 have n1:w1.next=w.next + 3:=by rw [hw1]
 have m1:w1.lim=w.lim:=by rw [hw1]
 have a4:w1.heap.get (w.next + 2)=some (.cells (arC fun _=>0) 76 false):=by rw [hw1]; simp
 obtain ⟨w2,hw2⟩:∃ w2,w2=(⟨(w1.heap.put (w.next + 3) (some (.cells (arC fun _=>0) 76 false))).put (w.next + 3) (some (.cells (arC (haD ps ds x)) 76 false)),w.next + 4,w.lim⟩:AW):=⟨_,rfl⟩
 have n2:w2.next=w.next + 4:=by rw [hw2]
 have m2:w2.lim=w.lim:=by rw [hw2]
 have c4:w2.heap.get (w.next + 2)=some (.cells (arC fun _=>0) 76 false):=by rw [hw2]; simp [a4]
 have c5:w2.heap.get (w.next + 3)=some (.cells (arC (leK ps ds x 0)) 76 false):=by rw [hw2,leK_zero hk]; simp
 have hle:w.lim≤w.next:=by omega
 have hle3:w.lim≤w.next + 1 + 1 + 1:=by omega
 simp only [l63] at r44
 rw [hw1] at r44
 simp only [l63,show w.next + 2=w.next + 1 + 1 from rfl,show w.next + 3=w.next + 1 + 1 + 1 from rfl] at r44
 rw [hw1] at hw2
 simp [mc51,cellsOf_agg,l63,al76', -al76,r44,arC_drop,hle3]
 simp only [l63,Nat.add_assoc,Nat.reduceAdd] at hw2 ⊢
 rw [← hw2]
 refine wp_seqX (wp_blockX (wp_rounds (fun i t w'=>Kp (w.next + 3) w2 w'∧w'.heap.get (w.next + 3)=some (.cells (arC (leK ps ds x i)) 76 false)∧tget t 4=.pointer (some ⟨w.next + 2,0,none⟩)∧tget t 5=.pointer (some ⟨w.next + 3,0,none⟩)∧tget t 12=.agg ⟨arC (owD ds)⟩∧tget t 13=.int .i64 (i:Nat)∧i≤8) 20 (by decide) ⟨Kp.refl _ _,c5,by simp,by simp,by simp,by simp,by omega⟩ ?_))
 rintro i t w' ⟨hkp,g5,t4,t5,t12,t13,hi⟩
 have hw1':IntKind.wrap .i64 ((i:Int) + 1)=(i:Int) + 1:=wrap64_in (by omega) (by omega)
 have hlm:=hkp.lim
 have hnx:=hkp.next
 by_cases hlt:i < 8
 ·have hia6:=fun w a=>ia76 w a .i64 hlt
  have hix:=fun w=>ix76 w (owD ds) .i64 hlt
  have hgt:=arC_get (leK ps ds x i) hlt
  have hst:=leK_step ps ds x i
  have q2:w'.lim≤w.next + 3:=by omega
  have hltI:(i:Int) < 8:=by omega
  obtain ⟨U,hU⟩:∃ U,U=leK ps ds x i (i:Int):=⟨_,rfl⟩
  obtain ⟨V,hV⟩:∃ V,V=owD ds (i:Int):=⟨_,rfl⟩
  rw [← hU] at hgt hst
  rw [← hV] at hst
  simp only [← hV] at hix
  have q3:i≤7:=by omega
  simp [mc51_l0,t4,t5,t12,t13,hltI,hlt,q3,hia6,hix,hgt,hU.symm,g5,q2,arC_set,hst,hw1']
  exact ⟨by omega,hkp.new (.inr rfl) (Nat.le_refl _)⟩
 ·have hi':i=8:=by omega
  subst hi'
  rw [leK_all hk] at g5
  have b4:w'.heap.get (w.next + 2)=some (.cells (arC fun _=>0) 76 false):=by rw [hkp.old _ (by omega) (by omega)]; exact c4
  have q2:w'.lim≤w.next + 2:=by omega
  simp [mc51_l0,t4,t5,t12,t13,g5,b4,q2,arC_drop,cellsOf_agg,tupV]
def arE (x y:Int→Int):Bool:=decide (x 0=y 0) && (decide (x 1=y 1) && (decide (x 2=y 2) && (decide (x 3=y 3) && (decide (x 4=y 4) && (decide (x 5=y 5) && (decide (x 6=y 6) && decide (x 7=y 7)))))))
theorem eq_ar (x y:Int→Int):sameL [0,0,0,0,0,0,0,0] (arC x) (arC y)=some (arE x y):=by
 unfold arE arC
 generalize x 0=a0; generalize x 1=a1; generalize x 2=a2; generalize x 3=a3
 generalize x 4=a4; generalize x 5=a5; generalize x 6=a6; generalize x 7=a7
 generalize y 0=b0; generalize y 1=b1; generalize y 2=b2; generalize y 3=b3
 generalize y 4=b4; generalize y 5=b5; generalize y 6=b6; generalize y 7=b7
 simp [eqFlat,flatCells,sameL,same1,sameInt,sameK_refl,intEq_eq]
 first | done | (rw [Bool.eq_iff_iff]; simp)
theorem arE_true {x y:Int→Int} (h:arE x y=true):arC x=arC y:=by
 simp only [arE,Bool.and_eq_true,decide_eq_true_eq] at h
 obtain ⟨h0,h1,h2,h3,h4,h5,h6,h7⟩:=h
 simp only [arC,h0,h1,h2,h3,h4,h5,h6,h7]
theorem arE_all {x y:Int→Int} (h:∀ k:Nat,k < 8→x (k:Int)=y (k:Int)):arE x y=true:=by
 have e0:x 0=y 0:=h 0 (by decide)
 have e1:x 1=y 1:=h 1 (by decide)
 have e2:x 2=y 2:=h 2 (by decide)
 have e3:x 3=y 3:=h 3 (by decide)
 have e4:x 4=y 4:=h 4 (by decide)
 have e5:x 5=y 5:=h 5 (by decide)
 have e6:x 6=y 6:=h 6 (by decide)
 have e7:x 7=y 7:=h 7 (by decide)
 simp only [arE,e0,e1,e2,e3,e4,e5,e6,e7,decide_true,Bool.and_self]
def S29:PSpec where
 R args w v:=∃ (pv dv:Value) (ps:List Pt) (ds:List Dt),args=[.agg ⟨l63 pv dv (owD ds)⟩]∧LedV w pv dv ps ds∧LK ps ds∧v=.agg ⟨arC (stF ps ds)⟩
 uniq:=by
  rintro _ _ _ _ ⟨pv,dv,ps,ds,rfl,hL,hk,rfl⟩ ⟨pv',dv',ps',ds',e,hL',hk',rfl⟩
  simp only [List.cons.injEq,Value.agg.injEq,Array.mk.injEq,and_true] at e
  obtain ⟨rfl,rfl,_⟩:=l63_inj e
  have:=hL.uniqP hL'
  subst this
  have:=hL.uniqD hL'
  subst this
  rfl
 shut:=by
  rintro _ _ _ ⟨pv,dv,ps,ds,h1,h2,h3⟩
  exact ⟨pv,dv,ps,ds,h1,h2.shut,h3⟩
theorem z8_of {ps:List Pt} {ds:List Dt} (hk:LK ps ds) {x:Int→Int} (hx:∀ p,0≤x p∧x p≤owD ds p):Z8 x:=fun p hp=>by
 have h1:=hk.z8 p hp
 have h2:=hx p
 omega
theorem desc_less {ps:List Pt} {ds:List Dt} (hk:LK ps ds) {x:Int→Int} (hd:DescD ps ds x) (hne:arE (nxD ps ds x) x=false):totD (nxD ps ds x) < totD x:=by
 apply Classical.byContradiction
 intro hn
 have:∀ k:Nat,k < 8→nxD ps ds x (k:Int)=x (k:Int):=fun k hk8=>by
  apply Classical.byContradiction
  intro h
  exact hn (tot_lt hd.low hk8 h)
 rw [arE_all this] at hne
 cases hne
theorem desc_fin {ps:List Pt} {ds:List Dt} (hk:LK ps ds) {x:Int→Int} (hd:DescD ps ds x) (he:arE (nxD ps ds x) x=true):x=stF ps ds:=by
 have:=arC_uniq (hk.nx8 x) (z8_of hk hd.rng) (arE_true he)
 exact st_of (hk.desc_gfp hd fun p=>by rw [this])
theorem run29 {ov:Ov} (ho:∀ args w,ov 29 args w=none) (h67:HasP ov 51 S51.F) (pv dv:Value) (ps:List Pt) (ds:List Dt) (w:AW) (hl:w.lim=w.next) (hL:LedV w pv dv ps ds) (hk:LK ps ds) :
  ∃ v w',(run Tryz.prog ov 2).call 29 [.agg ⟨l63 pv dv (owD ds)⟩] w .none=.ok (.ret v) w' .none∧v=.agg ⟨arC (stF ps ds)⟩:=by
 refine call_wp text29 (by simp) (ho _ _) ?_
 obtain ⟨w2,hw2⟩:∃ w2,w2=(⟨(((w.heap.put w.next (some (.cells (l63 pv dv (owD ds)) 78 false))).put (w.next + 1) (some (.cells (arC fun _=>0) 76 false))).put (w.next + 1 + 1) (some (.cells (arC fun _=>0) 76 false))).put (w.next + 1 + 1) (some (.cells (arC (owD ds)) 76 false)),w.next + 1 + 1 + 1,w.lim⟩:AW):=⟨_,rfl⟩
 have u2:Up w w2:=by
  rw [hw2]
  exact ((((Up.refl w).put (Nat.le_refl _) (Nat.le_refl _)).put (Nat.le_succ _) (Nat.le_refl _)).put (by omega) (Nat.le_refl _)).put (by omega) (by omega)
 have n2:w2.next=w.next + 1 + 1 + 1:=by rw [hw2]
 have m2:w2.lim=w.lim:=by rw [hw2]
 have c1:w2.heap.get w.next=some (.cells (pv::dv::arC (owD ds)) 78 false):=by rw [hw2]; simp [l63]
 have c2:w2.heap.get (w.next + 1)=some (.cells (arC fun _=>0) 76 false):=by rw [hw2]; simp
 have c3:w2.heap.get (w.next + 1 + 1)=some (.cells (arC (owD ds)) 76 false):=by rw [hw2]; simp
 have hle3:w.lim≤w.next + 1 + 1:=by omega
 simp only [l63] at hw2
 simp [mc29,cellsOf_agg,l63,al76', -al76,arC_drop,hle3]
 rw [← hw2]
 have hb:=tot_in (x:=owD ds) fun p=>⟨hk.ow_nonneg p,hk.ow_le p⟩
 refine wp_seqX (wp_blockX (wp_rounds (fun i t w'=>Kp (w.next + 1 + 1) w2 w'∧∃ x,w'.heap.get (w.next + 1 + 1)=some (.cells (arC x) 76 false)∧DescD ps ds x∧totD x + i≤12800000∧tget t 1=.pointer (some ⟨w.next,0,none⟩)∧tget t 2=.pointer (some ⟨w.next + 1,0,none⟩)∧tget t 3=.pointer (some ⟨w.next + 1 + 1,0,none⟩)) 12800001 (by decide) ⟨Kp.refl _ _,owD ds,c3,hk.desc_ow,by omega,by simp,by simp,by simp⟩ ?_))
 rintro i t w' ⟨hkp,x,g3,hd,ht,t1,t2,t3⟩
 have hlm:=hkp.lim
 have hnx:=hkp.next
 have b1:w'.heap.get w.next=some (.cells (pv::dv::arC (owD ds)) 78 false):=by rw [hkp.old _ (by omega) (by omega)]; exact c1
 have b2:w'.heap.get (w.next + 1)=some (.cells (arC fun _=>0) 76 false):=by rw [hkp.old _ (by omega) (by omega)]; exact c2
 have hu:=hkp.up u2 (by omega)
 have r67:=S51.call1 (P:=Tryz.prog) h67 (w:=w') ⟨pv,dv,ps,ds,x,rfl,hL.up hu,hk,hd.rng,rfl⟩
 simp only [l63] at r67
 have q0:¬ w.next=w'.next:=by omega
 have q1:¬ w.next + 1=w'.next:=by omega
 have q2:¬ w.next + 1 + 1=w'.next:=by omega
 have q3:w'.lim≤w'.next:=by omega
 have q4:w'.lim≤w.next + 1:=by omega
 have q5:w'.lim≤w.next + 1 + 1:=by omega
 cases hE:arE (nxD ps ds x) x with
 | true =>
  have e:=desc_fin hk hd hE
  simp [mc29_l0,t1,t2,t3,b1,b2,g3,r67,q0,q1,q2,q3,q4,q5,eq_ar,hE,al76', -al76,cellsOf_agg,arC_drop,tupV]
  rw [e]
 | false =>
  have hd2:=hk.desc_next hd
  have hlt:=desc_less hk hd hE
  have h0:=(tot_in (x:=nxD ps ds x) fun p=>⟨(hd2.rng p).1,by have:=(hd2.rng p).2; have:=hk.ow_le p; omega⟩).1
  simp [mc29_l0,t1,t2,t3,b1,b2,g3,r67,q0,q1,q2,q3,q4,q5,eq_ar,hE,al76', -al76,cellsOf_agg,arC_drop]
  refine ⟨by omega,?_,nxD ps ds x,rfl,hd2,by omega⟩
  exact ((hkp.new (.inl hnx) (Nat.le_refl _)).new (.inl hnx) (Nat.le_succ _)).new (.inr rfl) (Nat.le_refl _)
def Steps67 (ov:Ov) (m L:Nat) {σ:Type} (f:σ→Dt→σ) (G:σ→Prop) (J:σ→AW→Prop) (M:Nat→Prop) (ds:List Dt) (p:Int):Prop :=
 ∀ st d w,d ∈ ds→d.f=p→G st→G (f st d)→J st w→∃ w',yieldA (run Tryz.prog ov m) L [.agg ⟨dtC d⟩] w=.val true w'∧J (f st d) w'∧(∀ x,x < w.next→¬ M x→w'.heap.get x=w.heap.get x)∧w.next≤w'.next∧w'.lim=w.lim
def ofP (ds:List Dt) (p:Int):List Dt:=ds.filter fun d=>decide (d.f=p)
def foP {σ:Type} (f:σ→Dt→σ) (st:σ) (ds:List Dt) (p:Int) (i:Nat):σ:=(ofP (ds.take i) p).foldl f st
theorem foP_step {σ:Type} {f:σ→Dt→σ} {st:σ} {ds:List Dt} {p:Int} {i:Nat} {d:Dt} (h:ds[i]?=some d):foP f st ds p (i + 1)=if d.f=p then f (foP f st ds p i) d else foP f st ds p i:=by
 unfold foP ofP
 rw [List.take_add_one,h,List.filter_append]
 by_cases e:d.f=p
 ·simp [e]
 ·simp [e]
structure In67 {σ:Type} (J:σ→AW→Prop) (M:Nat→Prop) (w0:AW) (st:σ) (w:AW):Prop where
 j:J st w
 keep:∀ x,x < w0.next→¬ M x→w.heap.get x=w0.heap.get x
 next:w0.next≤w.next
 lim:w.lim=w0.lim
theorem RowsV.keep {α:Type} {f:α→List Value} {we w:AW} {v:Value} {l:List α} (h:RowsV f we v l) (k:∀ x,x < we.next→w.heap.get x=we.heap.get x) (hn:we.next≤w.next):RowsV f w v l:=h.old k hn
theorem loop67 {ov:Ov} (m:Nat) {σ:Type} (f:σ→Dt→σ) (G:σ→Prop) (J:σ→AW→Prop) (M:Nat→Prop) (L:Nat) (dv:Value) (ds:List Dt) (h16:ds.length≤16) (p:Int) (hst:Steps67 ov (m + 1) L f G J M ds p) (we w0:AW) (hlim:w0.lim≤w0.next) (hD:RowsV dtC we dv ds) (hwe:we.next≤w0.next) (hMe:∀ x,M x→we.next≤x) (hold:∀ x,x < we.next→w0.heap.get x=we.heap.get x)
  (hJ:∀ st w w',J st w→(∀ x,x < w.next→w'.heap.get x=w.heap.get x)→w.next≤w'.next→w'.lim=w.lim→J st w')
  (n2:Nat) (k2:n2 < w0.next) (m2:¬ M n2) (g2:w0.heap.get n2=some (.cells [.int .i64 p] 3 false)) (st:σ) (hG:∀ i,i≤ds.length→G (foP f st ds p i))
  (Q:Ex→Tm→AW→Prop) (t:Tm) (w:AW) (hw:In67 J M w0 st w)
  (t0:tget t 0=.func (.yield L) ⟨[]⟩ ⟨[]⟩) (t2:tget t 2=.pointer (some ⟨n2,0,none⟩)) (t8:tget t 8=dv) (t9:tget t 9=.int .i64 (ds.length:Nat)) (t10:tget t 10=.int .i64 0)
  (hQ:∀ t w,In67 J M w0 (foP f st ds p ds.length) w→Q (.exit 0) t w):wp (exY Tryz.prog (run Tryz.prog ov (m + 1)) (.loop mc67_l0) t w) Q:=by
 refine wp_roundsY (fun i t w=>In67 J M w0 (foP f st ds p i) w∧tget t 0=.func (.yield L) ⟨[]⟩ ⟨[]⟩∧tget t 2=.pointer (some ⟨n2,0,none⟩)∧tget t 8=dv∧tget t 9=.int .i64 (ds.length:Nat)∧tget t 10=.int .i64 (i:Nat)∧i≤ds.length) 20 (by decide) ⟨hw,t0,t2,t8,t9,by simpa using t10,Nat.zero_le _⟩ ?_
 clear t0 t2 t8 t9 t10 hw
 rintro i t w ⟨hw,t0,t2,t8,t9,t10,hi⟩
 by_cases hlt:i < ds.length
 ·obtain ⟨d,hd⟩:∃ d,ds[i]?=some d:=⟨_,List.getElem?_eq_getElem hlt⟩
  have hnx:=hw.next
  have hlm:=hw.lim
  have hDw:RowsV dtC w dv ds:=RowsV.keep hD (fun x hx=>by rw [hw.keep x (by omega) (fun hm=>by have:=hMe x hm; omega),hold x hx]) (by omega)
  obtain ⟨b,off,sq,c,rfl,hr⟩:=hDw.at_ i hlt
  have hld:=hr.rd dtC_length hd
  have hia:=fun w=>ia38 w ⟨b,off,sq⟩ ds.length c .i64 i hlt
  have hb2:=g2
  rw [← hw.keep n2 k2 m2] at hb2
  have q2:¬ n2=w.next:=by omega
  have q3:w.lim≤w.next:=by omega
  have hw1:IntKind.wrap .i64 ((i:Int) + 1)=(i:Int) + 1:=wrap64_in (by omega) (by omega)
  have hstep:=foP_step (f:=f) (st:=st) (p:=p) hd
  obtain ⟨w1,ew1⟩:∃ w1:AW,w1=⟨(w.heap.put w.next (some (.cells [.int .i64 0,.int .i64 0,.int .i64 0] 53 false))).put w.next (some (.cells (dtC d) 53 false)),w.next + 1,w.lim⟩:=⟨_,rfl⟩
  have s1:∀ x,x < w.next→w1.heap.get x=w.heap.get x:=fun x hx=>by rw [ew1]; simp [show ¬ x=w.next by omega]
  have n1:w1.next=w.next + 1:=by rw [ew1]
  have l1:w1.lim=w.lim:=by rw [ew1]
  have hJ1:=hJ _ w w1 hw.j s1 (by omega) l1
  by_cases hp:d.f=p
  ·rw [if_pos hp] at hstep
   obtain ⟨w',hy,hJ',hk,hn,hl⟩:=hst _ d w1 (List.mem_of_getElem? hd) hp (hG i hi) (by rw [← hstep]; exact hG (i + 1) hlt) hJ1
   rw [← hstep] at hJ'
   rw [ew1] at hy
   obtain ⟨df,dt,dc⟩:=d
   simp only at hp
   subst hp
   simp only [dtC] at hld hy
   simp [mc67_l0,t0,t2,t8,t9,t10,hlt,hia,hld,hb2,q2,q3,hy,hw1]
   exact ⟨by omega,⟨hJ',fun x hx h=>by rw [hk x (by omega) h,s1 x (by omega)]; exact hw.keep x hx h,by omega,by omega⟩,hlt⟩
  ·rw [if_neg hp] at hstep
   rw [← hstep] at hJ1
   rw [ew1] at hJ1 s1
   obtain ⟨df,dt,dc⟩:=d
   simp only at hp
   simp only [dtC] at hld hJ1 s1
   simp [mc67_l0,t0,t2,t8,t9,t10,hlt,hia,hld,hb2,q2,q3,hp,hw1]
   exact ⟨by omega,⟨hJ1,fun x hx h=>by rw [s1 x (by omega)]; exact hw.keep x hx h,by show w0.next≤w.next + 1; omega,hlm⟩,hlt⟩
 ·have hi':i=ds.length:=by omega
  subst hi'
  simp [mc67_l0,t9,t10]
  exact hQ _ _ hw
theorem call67 {ov:Ov} (m:Nat) (ho:∀ args w,ov 67 args w=none) {σ:Type} (f:σ→Dt→σ) (G:σ→Prop) (J:σ→AW→Prop) (M:Nat→Prop) (L:Nat) (pv dv:Value) (o:Int→Int) (ds:List Dt) (h16:ds.length≤16) (p:Int) (hst:Steps67 ov (m + 1) L f G J M ds p) (we w0:AW) (hlim:w0.lim≤w0.next) (hD:RowsV dtC we dv ds) (hwe:we.next≤w0.next) (hMe:∀ x,M x→we.next≤x) (hold:∀ x,x < we.next→w0.heap.get x=we.heap.get x)
  (hJ:∀ st w w',J st w→(∀ x,x < w.next→w'.heap.get x=w.heap.get x)→w.next≤w'.next→w'.lim=w.lim→J st w')
  (n1 n2:Nat) (g1:w0.heap.get n1=some (.cells (l63 pv dv o) 78 false)) (k2:n2 < w0.next) (m2:¬ M n2) (g2:w0.heap.get n2=some (.cells [.int .i64 p] 3 false)) (st:σ) (hG:∀ i,i≤ds.length→G (foP f st ds p i)) (hst0:J st w0) :
  ∃ v w',(run Tryz.prog ov (m + 2)).call 67 [.func (.yield L) ⟨[]⟩ ⟨[]⟩,.pointer (some ⟨n1,0,none⟩),.pointer (some ⟨n2,0,none⟩)] w0 .none=.ok (.ret v) w' .none∧J (foP f st ds p ds.length) w'∧(∀ x,x < w0.next→¬ M x→w'.heap.get x=w0.heap.get x)∧w0.next≤w'.next∧w'.lim=w0.lim:=by
 refine call_wpY text67 (by simp) (ho _ _) ?_
 have hl23:=fun w2=>len38V (w':=w2) hD
 simp only [l63] at g1
 simp [mc67,g1,hl23]
 refine wp_blockX (loop67 m f G J M L dv ds h16 p hst we w0 hlim hD hwe hMe hold hJ n2 k2 m2 g2 st hG _ _ _ ⟨hst0,fun x _ _=>rfl,Nat.le_refl _,rfl⟩ ?_ ?_ ?_ ?_ ?_ ?_)
 case _=>simp
 case _=>simp
 case _=>simp
 case _=>simp
 case _=>simp
 case _=>intro t w h; simpa [tupV] using ⟨h.j,h.keep,h.next,h.lim⟩
theorem list26:isList Tryz.prog 23=true:=by kernel_rfl
@[simp] theorem setPar_cons (p:Tmp) (ps:List Tmp) (a:Value) (l:List Value) (t:Tm):setParams (p::ps) (a::l) t=setParams ps l (tset t p a):=rfl
@[simp] theorem setPar_nil (t:Tm):setParams [] [] t=t:=rfl
@[simp] theorem cf74 (w:AW) (l:List Value):callFn Tryz.prog w 67 l=.enter 67 l w:=callFn_of (by kernel_rfl) l
theorem call46 {ov:Ov} (m:Nat) (ho:∀ args w,ov 46 args w=none) (pv dv:Value) (o:Int→Int) (i:Int) (w:AW) :
  ∃ v w',(run Tryz.prog ov (m + 1)).call 46 [.agg ⟨l63 pv dv o⟩,.int .i64 i] w .none=.ok (.ret v) w' .none∧v=.func (.func 67) ⟨[]⟩ ⟨[.pointer (some ⟨w.next,0,none⟩),.pointer (some ⟨w.next + 1,0,none⟩)]⟩∧w'=⟨(w.heap.put w.next (some (.cells (l63 pv dv o) 78 false))).put (w.next + 1) (some (.cells [.int .i64 i] 3 false)),w.next + 2,w.lim⟩:=by
 refine call_wp text46 (by simp) (ho _ _) ?_
 simp [mc46,tupV,cellsOf_agg,notJunk]
structure J40 (c5 L:Nat) (lp:ALoop) (st:List Int) (w:AW):Prop where
 acc:∃ sl B,w.heap.get c5=some (.cells [sl] 23 false)∧AccQ intC 3 L w sl st B
 lo:w.heap.get L=some (.loop lp)
 ord:w.lim≤c5∧c5 < L∧L < w.next
theorem J40.stay {c5 L:Nat} {lp:ALoop} (st:List Int) (w w':AW) (h:J40 c5 L lp st w) (k:∀ x,x < w.next→w'.heap.get x=w.heap.get x) (hn:w.next≤w'.next) (hl:w'.lim=w.lim):J40 c5 L lp st w':=by
 obtain ⟨⟨sl,B,h1,h2⟩,h3,h4,h5,h6⟩:=h
 exact ⟨⟨sl,B,by rw [k _ (by omega)]; exact h1,h2.keep (fun _ _ hB=>k B hB) hn⟩,by rw [k _ h6]; exact h3,by omega,h5,by omega⟩
theorem steps25 {ov:Ov} (m c5 L:Nat) (tm:Tm) (t5:tget tm 5=.pointer (some ⟨c5,0,none⟩)) (ds:List Dt) (p:Int) :
  Steps67 ov (m + 1) L (fun st d=>st++[d.c]) (fun st=>st.length≤1000) (J40 c5 L ⟨31,tm,[18],(rfOf Tryz.prog 25 0).1,(rfOf Tryz.prog 25 0).2,none,.ready⟩) (fun x=>x=c5∨L≤x) ds p:=by
 intro st d w hd hp hG hG' hJ
 obtain ⟨⟨sl,B,h1,hacc⟩,lo,o1,o2,o3⟩:=hJ
 obtain ⟨wB,ewB⟩:∃ wB:AW,wB=⟨((w.heap.put w.next (some (.cells [.int .i64 0,.int .i64 0,.int .i64 0] 53 false))).put w.next (some (.cells (dtC d) 53 false))).put L (some (.loop ⟨31,tm,[18],(rfOf Tryz.prog 25 0).1,(rfOf Tryz.prog 25 0).2,none,.busy⟩)),w.next + 1,w.lim⟩:=⟨_,rfl⟩
 have nB:wB.next=w.next + 1:=by rw [ewB]
 have lB:wB.lim=w.lim:=by rw [ewB]
 have kB:∀ x,x < w.next→x ≠ L→wB.heap.get x=w.heap.get x:=fun x h1 h2=>by rw [ewB]; simp [show ¬ x=w.next by omega,h2]
 have gL:wB.heap.get L=some (.loop ⟨31,tm,[18],(rfOf Tryz.prog 25 0).1,(rfOf Tryz.prog 25 0).2,none,.busy⟩):=by rw [ewB]; simp
 have haccB:AccQ intC 3 L wB sl st B:=hacc.keep (fun _ hl hB=>kB B hB (by omega)) (by omega)
 obtain ⟨v',w4,ha,⟨B',hB',hacc'⟩,hkp,hn4,hl4⟩:=AccQ.push2 (P:=Tryz.prog) (st:=23) (sz:=1) list26 elem23 size3 small3 intC_length (fun _=>by simp [intC]) (by decide) haccB (by omega) (by omega) (by omega) d.c
 have e1:¬ c5=w.next:=by omega
 have e2:¬ c5=L:=by omega
 have e3:¬ w.next=L:=by omega
 have e4:¬ L=w.next:=by omega
 have e5:¬ L=c5:=by omega
 have hlw:w.lim≤w.next:=by omega
 have hlL:w.lim≤L:=by omega
 have g5:w4.heap.get c5=some (.cells [sl] 23 false):=by
  rw [hkp c5 (by omega) (fun hne=>by have:=haccB.lt hne; omega),kB c5 (by omega) e2]; exact h1
 have gL4:w4.heap.get L=some (.loop ⟨31,tm,[18],(rfOf Tryz.prog 25 0).1,(rfOf Tryz.prog 25 0).2,none,.busy⟩):=by
  rw [hkp L (by omega) (fun hne=>by have:=haccB.lt hne; omega)]; exact gL
 have l4:w4.lim≤c5:=by omega
 have l4L:w4.lim≤L:=by omega
 have hsv:(cellsOf v').length=1∧cellsOf v'=[v']∧singles [v']=true:=by
  obtain ⟨a,c,rfl⟩:=hacc'.rows.len
  exact ⟨rfl,rfl,by simp⟩
 obtain ⟨s1,s2,s3⟩:=hsv
 rw [ewB] at ha
 obtain ⟨df,dt,dc⟩:=d
 simp only [dtC,intC] at ha
 obtain ⟨j,w',hy,hQ⟩:=yield_wp (P:=Tryz.prog) (ov:=ov) (m:=m) (l:=L) (args:=[.agg ⟨dtC ⟨df,dt,dc⟩⟩]) (w:=w) (Q:=fun j w'=>j=none∧w'=⟨(w4.heap.put c5 (some (.cells [v'] 23 false))).put L (some (.loop ⟨31,tm,[18],(rfOf Tryz.prog 25 0).1,(rfOf Tryz.prog 25 0).2,none,.ready⟩)),w4.next,w4.lim⟩) lo rfl rfl ta25_0 tb25_0 (by
  simp [mc25_a0,mc25_b0,dtC,lo,hlw,hlL,jumpOf,t5,e1,e2,e3,e4,e5,h1,ha,s1,s2,s3,g5,gL4,l4,l4L])
 obtain ⟨rfl,rfl⟩:=hQ
 refine ⟨_,hy,⟨⟨v',B',by simp [e2],hacc'.keep (fun _ h2 h3=>by simp [show ¬ B'=c5 by omega,show ¬ B'=L by omega]) (Nat.le_refl _)⟩,by simp,l4,o2,by show L < w4.next; omega⟩,fun x hx hM=>?_,by show w.next≤w4.next; omega,by show w4.lim=w.lim; omega⟩
 have q1:¬ x=c5:=fun h=>hM (.inl h)
 have q2:¬ L≤x:=fun h=>hM (.inr h)
 simp [q1,show ¬ x=L by omega]
 rw [hkp x (by omega) (fun hne=>by have:=haccB.lt hne; omega),kB x hx (by omega)]
theorem st_l63 {w:AW} {b:Nat} {pv dv:Value} {o:Int→Int} {v:Int} {k:Nat} (hk:k < 8) (hl:w.lim≤b):wrO w b (2 + k) [.int .i64 v] (some (.cells (pv::dv::arC o) 78 false))=some ⟨w.heap.put b (some (.cells (pv::dv::arC (updF o (k:Int) v)) 78 false)),w.next,w.lim⟩:=by
 rw [wrO_cells (by simp) hl (by simp; omega),← arC_set o v hk]
 rw [show 2 + k=k + 1 + 1 by omega]
 rfl
theorem fold_c:∀ (l:List Dt) (st:List Int),l.foldl (fun st d=>st++[d.c]) st=st++l.map Dt.c
 | [],st=>by simp
 | d::l,st=>by rw [List.foldl_cons,fold_c l,List.map_cons,List.append_assoc]; rfl
theorem foP_c (ds:List Dt) (p:Int) (i:Nat):foP (fun st d=>st++[d.c]) [] ds p i=(ofP (ds.take i) p).map Dt.c:=by
 unfold foP; rw [fold_c]; rfl
theorem ofP_len (ds:List Dt) (p:Int):(ofP ds p).length≤ds.length:=List.length_filter_le _ _
theorem totL_ofP (p:Int):∀ ds:List Dt,totL ((ofP ds p).map Dt.c)=owD ds p
 | []=>rfl
 | d::ds=>by
  have ih:=totL_ofP p ds
  unfold ofP owD at *
  by_cases e:d.f=p
  ·simp only [List.filter_cons,e,decide_true,if_true,List.map_cons,totL,sI]; omega
  ·simp only [List.filter_cons,decide_eq_false e,sI,if_neg e]
   simp only [Bool.false_eq_true,if_false]
   omega
theorem totW_ofP {ps:List Pt} {ds:List Dt} (hk:LK ps ds) (p:Int):totW ((ofP ds p).map Dt.c)=owD ds p:=by
 have h16:=hk.d16
 rw [totW_eq (fun z hz=>?_) (by rw [List.length_map]; have:=ofP_len ds p; omega),totL_ofP]
 obtain ⟨d,hd,rfl⟩:=List.mem_map.1 hz
 have:=(hk.debt d (List.mem_filter.1 hd).1).2.2.2
 omega
def owK (ds:List Dt) (i:Nat):Int→Int:=fun p=>if p < (i:Int) then owD ds p else 0
theorem owK_zero {ps:List Pt} {ds:List Dt} (hk:LK ps ds):owK ds 0=fun _=>0:=by
 funext p
 unfold owK
 split
 ·exact hk.ow_out (.inl (by omega))
 ·rfl
theorem owK_step (ds:List Dt) (i:Nat):updF (owK ds i) (i:Int) (owD ds (i:Int))=owK ds (i + 1):=by
 funext p
 unfold updF owK
 by_cases h1:p=(i:Int)
 ·subst h1
  rw [if_pos rfl,if_pos (by omega)]
 ·rw [if_neg h1]
  by_cases h2:p < (i:Int)
  ·rw [if_pos h2,if_pos (by omega)]
  ·rw [if_neg h2,if_neg (by omega)]
theorem owK_all {ps:List Pt} {ds:List Dt} (hk:LK ps ds):owK ds ps.length=owD ds:=by
 funext p
 unfold owK
 split
 ·rfl
 ·rw [hk.ow_out (.inr (by omega))]
theorem loop25 {ov:Ov} (m:Nat) (ho61:∀ args w,ov 46 args w=none) (ho74:∀ args w,ov 67 args w=none) (h62:HasP ov 47 S47.F) (pv dv:Value) (ps:List Pt) (ds:List Dt) (w w1:AW) (hL:LedV w pv dv ps ds) (hk:LK ps ds) (hl:w.lim≤w.next) (u1:Up w w1) (B3:Nat) (hB:w.next≤B3) (hB1:B3 < w1.next) (v2:Value)
  (Q:Ex→Tm→AW→Prop) (t:Tm) (g3:w1.heap.get B3=some (.cells (l63 pv dv (owK ds 0)) 78 false))
  (t2:tget t 2=v2) (t3:tget t 3=.pointer (some ⟨B3,0,none⟩)) (t11:tget t 11=.int .i64 (ps.length:Nat)) (t12:tget t 12=.int .i64 0)
  (hQ:∀ t w',Kp B3 w1 w'→w'.heap.get B3=some (.cells (l63 pv dv (owD ds)) 78 false)→tget t 2=v2→tget t 3=.pointer (some ⟨B3,0,none⟩)→Q (.exit 0) t w'):wp (exY Tryz.prog (run Tryz.prog ov (m + 2)) (.loop mc25_l0) t w1) Q:=by
 have h8:=hk.n8
 have h16:=hk.d16
 refine wp_roundsY (fun i t w'=>Kp B3 w1 w'∧w'.heap.get B3=some (.cells (l63 pv dv (owK ds i)) 78 false)∧tget t 2=v2∧tget t 3=.pointer (some ⟨B3,0,none⟩)∧tget t 11=.int .i64 (ps.length:Nat)∧tget t 12=.int .i64 (i:Nat)∧i≤ps.length) 20 (by decide) ⟨Kp.refl _ _,g3,t2,t3,t11,by simpa using t12,Nat.zero_le _⟩ ?_
 clear t2 t3 t11 t12 g3
 rintro i t w' ⟨hkp,g3,t2,t3,t11,t12,hi⟩
 have hw1':IntKind.wrap .i64 ((i:Int) + 1)=(i:Int) + 1:=wrap64_in (by omega) (by omega)
 have hlm:=hkp.lim
 have hnx:=hkp.next
 have hul:=u1.lim
 have hun:=u1.next
 by_cases hlt:i < ps.length
 ·have e1:¬ B3=w'.next:=by omega
  have e2:¬ B3=w'.next + 1:=by omega
  have e3:¬ B3=w'.next + 2:=by omega
  obtain ⟨_,_,c61,rfl,rfl⟩:=call46 (ov:=ov) (m + 1) ho61 pv dv (owK ds i) i ⟨w'.heap.put w'.next (some (.cells [.slice none 0 0] 23 false)),w'.next + 1,w'.lim⟩
  simp only [l63,Nat.add_assoc,Nat.reduceAdd] at c61 g3
  simp [mc25_l0,t2,t3,t11,t12,hlt,g3,e1,c61]
  obtain ⟨H,hH⟩:∃ H,H=((w'.heap.put w'.next (some (.cells [.slice none 0 0] 23 false))).put (w'.next + 1) (some (.cells (pv::dv::arC (owK ds i)) 78 false))).put (w'.next + 2) (some (.cells [.int .i64 (i:Nat)] 3 false)):=⟨_,rfl⟩
  rw [← hH]
  have hH':∀ x,x < w'.next→H.get x=w'.heap.get x:=fun x h1=>by
   rw [hH]; simp [show ¬ x=w'.next by omega,show ¬ x=w'.next + 1 by omega,show ¬ x=w'.next + 2 by omega]
  have g5:H.get w'.next=some (.cells [.slice none 0 0] 23 false):=by rw [hH]; simp
  have gy:H.get (w'.next + 1)=some (.cells (l63 pv dv (owK ds i)) 78 false):=by rw [hH]; simp [l63]
  have gi:H.get (w'.next + 2)=some (.cells [.int .i64 (i:Nat)] 3 false):=by rw [hH]; simp
  refine wp_seqX (wp_blockX (wp_seqX (wp_blockX (rf_wp (g:=67) (gargs:=[.func (.yield (w'.next + 3)) ⟨[]⟩ ⟨[]⟩,.pointer (some ⟨w'.next + 1,0,none⟩),.pointer (some ⟨w'.next + 2,0,none⟩)]) ?_ ?_))))
  ·simp [callV_func]
  ·generalize hTT:tset _ 17 _=TT
   have u2:tget TT 2=v2:=by rw [← hTT]; simp [t2]
   have u3:tget TT 3=.pointer (some ⟨B3,0,none⟩):=by rw [← hTT]; simp [t3]
   have u4:tget TT 4=.int .i64 (i:Nat):=by rw [← hTT]; simp
   have u5:tget TT 5=.pointer (some ⟨w'.next,0,none⟩):=by rw [← hTT]; simp
   have u11:tget TT 11=.int .i64 (ps.length:Nat):=by rw [← hTT]; simp [t11]
   have u12:tget TT 12=.int .i64 (i:Nat):=by rw [← hTT]; simp [t12]
   clear hTT
   have hst:=steps25 (ov:=ov) m w'.next (w'.next + 3) TT u5 ds (i:Int)
   obtain ⟨w0,ew0⟩:∃ w0:AW,w0=⟨H.put (w'.next + 3) (some (.loop ⟨31,TT,[18],(rfOf Tryz.prog 25 0).1,(rfOf Tryz.prog 25 0).2,none,.ready⟩)),w'.next + 3 + 1,w'.lim⟩:=⟨_,rfl⟩
   have n0:w0.next=w'.next + 3 + 1:=by rw [ew0]
   have l0:w0.lim=w'.lim:=by rw [ew0]
   have hgo:∀ x,x < w'.next + 3→w0.heap.get x=H.get x:=fun x hx=>by rw [ew0]; show (H.put _ _).get x=_; rw [get_put,if_neg (by omega)]
   have hJ0:J40 w'.next (w'.next + 3) ⟨31,TT,[18],(rfOf Tryz.prog 25 0).1,(rfOf Tryz.prog 25 0).2,none,.ready⟩ [] w0 :=
    ⟨⟨.slice none 0 0,0,by rw [hgo _ (by omega)]; exact g5,.inl ⟨rfl,rfl⟩⟩,by rw [ew0]; show (H.put _ _).get _=_; rw [get_put,if_pos rfl],by omega,by omega,by omega⟩
   obtain ⟨v,w2,hc,hJ2,hk2,hn2,hl2⟩:=call67 (ov:=ov) m ho74 (fun st d=>st++[d.c]) (fun st=>st.length≤1000) (J40 w'.next (w'.next + 3) ⟨31,TT,[18],(rfOf Tryz.prog 25 0).1,(rfOf Tryz.prog 25 0).2,none,.ready⟩) (fun x=>x=w'.next∨w'.next + 3≤x) (w'.next + 3) pv dv (owK ds i) ds h16 (i:Int) hst w w0 (by omega) hL.d (by omega) (fun x hx=>by omega) (fun x hx=>by rw [hgo x (by omega),hH' x (by omega)]; exact (hkp.up u1 hB).at hx) (fun st w w' h k hn hl=>J40.stay st w w' h k hn hl) (w'.next + 1) (w'.next + 2) (by rw [hgo _ (by omega)]; exact gy) (by omega) (by omega) (by rw [hgo _ (by omega)]; exact gi) [] (fun j hj=>by
     rw [foP_c,List.length_map]
     have:=ofP_len (ds.take j) (i:Int)
     rw [List.length_take] at this; omega) hJ0
   rw [ew0] at hc
   obtain ⟨⟨sl,B,h1,hacc⟩,lo,o1,o2,o3⟩:=hJ2
   refine ⟨v,w2,hc,_,lo,rfl,by show w2.lim≤w'.next + 3; omega,?_⟩
   rw [foP_c,List.take_length] at hacc
   have hrows:RowsV intC ⟨w2.heap.put (w'.next + 3) (some (.loop ⟨31,TT,[18],(rfOf Tryz.prog 25 0).1,(rfOf Tryz.prog 25 0).2,none,.exhausted⟩)),w2.next,w2.lim⟩ sl ((ofP ds (i:Int)).map Dt.c) :=
    (hacc.keep (w':=⟨w2.heap.put (w'.next + 3) (some (.loop ⟨31,TT,[18],(rfOf Tryz.prog 25 0).1,(rfOf Tryz.prog 25 0).2,none,.exhausted⟩)),w2.next,w2.lim⟩) (fun _ h2 h3=>by simp [show ¬ B=w'.next + 3 by omega]) (Nat.le_refl _)).rows
   have r62:=S47.call (P:=Tryz.prog) h62 (m:=m + 1) ⟨sl,_,rfl,hrows,by rw [List.length_map]; have:=ofP_len ds (i:Int); omega,rfl⟩
   rw [totW_ofP hk] at r62
   have g3':w2.heap.get B3=some (.cells (pv::dv::arC (owK ds i)) 78 false):=by
    rw [hk2 B3 (by omega) (by omega),hgo B3 (by omega),hH' B3 (by omega)]; exact g3
   have q1:¬ w'.next=w'.next + 3:=by omega
   have q2:¬ B3=w'.next + 3:=by omega
   have q3:w2.lim≤B3:=by omega
   have q4:i < 8:=by omega
   have hia6:=fun w a=>ia76 w a .i64 q4
   have hst:=owK_step ds i
   have hs':=st_l63 (w:=⟨w2.heap.put (w'.next + 3) (some (.loop ⟨31,TT,[18],(rfOf Tryz.prog 25 0).1,(rfOf Tryz.prog 25 0).2,none,.exhausted⟩)),w2.next,w2.lim⟩) (b:=B3) (pv:=pv) (dv:=dv) (o:=owK ds i) (v:=owD ds (i:Int)) q4 q3
   rw [hst] at hs'
   simp [u2,u3,u4,u5,u11,u12,h1,q1,q2,g3',r62,hia6,hs',hw1', -wrO_cells]
   refine ⟨by omega,?_,rfl,hlt⟩
   refine ⟨fun x h2 h3=>?_,by show w1.next≤w2.next; omega,by show w2.lim=w1.lim; omega⟩
   show ((w2.heap.put _ _).put _ _).get x=_
   rw [get_put,if_neg h3,get_put,if_neg (by omega),hk2 x (by omega) (by omega),hgo x (by omega),hH' x (by omega)]
   exact hkp.old x h2 h3
 ·have hi':i=ps.length:=by omega
  subst hi'
  rw [owK_all hk] at g3
  simp [mc25_l0,t2,t3,t11,t12]
  exact hQ _ _ hkp g3 (by simp [t2]) (by simp [t3])
theorem l63_zero (pv dv:Value):l63 pv dv (fun _=>0)=[pv,dv,.int .i64 0,.int .i64 0,.int .i64 0,.int .i64 0,.int .i64 0,.int .i64 0,.int .i64 0,.int .i64 0]:=rfl
theorem l63_drop (pv dv:Value) (o:Int→Int):(pv::dv::arC o).drop 10=[]:=rfl
theorem l63_take (pv dv:Value) (o:Int→Int):(pv::dv::arC o).take 10=pv::dv::arC o:=rfl
theorem call25 {ov:Ov} (m:Nat) (ho:∀ args w,ov 25 args w=none) (ho61:∀ args w,ov 46 args w=none) (ho74:∀ args w,ov 67 args w=none) (h62:HasP ov 47 S47.F) (pv dv:Value) (ps:List Pt) (ds:List Dt) (w:AW) (hl:w.lim≤w.next) (hL:LedV w pv dv ps ds) (hk:LK ps ds) :
  ∃ v w',(run Tryz.prog ov (m + 3)).call 25 [.agg ⟨[pv,dv]⟩] w .none=.ok (.ret v) w' .none∧v=.agg ⟨l63 pv dv (owD ds)⟩∧Up w w':=by
 refine call_wpY text25 (by simp) (ho _ _) ?_
 have hl22:=fun w2=>len37V (w':=w2) hL.p
 have hsl:singles [pv]=true∧singles [dv]=true∧singles [pv,dv]=true:=by
  obtain ⟨a,c,rfl⟩:=hL.p.len
  obtain ⟨a',c',rfl⟩:=hL.d.len
  simp
 have q1:w.lim≤w.next + 1:=by omega
 have q2:w.lim≤w.next + 1 + 1:=by omega
 obtain ⟨pa,pc,rfl⟩:=hL.p.len
 obtain ⟨da,dc,rfl⟩:=hL.d.len
 have hl22':=fun w2=>len37 w2 pa ps.length pc
 simp [mc25,cellsOf_agg,q1,q2]
 refine wp_seqX (wp_blockX (loop25 m ho61 ho74 h62 (.slice pa ps.length pc) (.slice da ds.length dc) ps ds w _ hL hk hl ?_ (w.next + 1 + 1) (by omega) ?_ (.pointer (some ⟨w.next + 1,0,none⟩)) _ _ ?_ ?_ ?_ ?_ ?_ ?_))
 case _=>exact ((((Up.refl w).put (Nat.le_refl _) (Nat.le_refl _)).put (Nat.le_succ _) (Nat.le_refl _)).put (by omega) (Nat.le_refl _)).put (by omega) (by show w.next≤w.next + 1 + 1 + 1; omega)
 case _=>show w.next + 1 + 1 < w.next + 1 + 1 + 1; omega
 case _=>rw [owK_zero hk,l63_zero]; simp
 case _=>simp
 case _=>simp
 case _=>simp
 case _=>simp
 case _ =>
  intro t w' hkp g3 t2 t3
  have hlm:=hkp.lim
  have hnx:=hkp.next
  have hlm':w'.lim=w.lim:=hlm
  have g2:∃ cs,w'.heap.get (w.next + 1)=some (.cells cs 78 false)∧cs.length=10∧cs.drop 10=[]:=by
   rw [hkp.old (w.next + 1) (by show w.next + 1 < w.next + 1 + 1 + 1; omega) (by omega)]
   refine ⟨_,by simp; rfl,by simp,by simp⟩
  obtain ⟨cs,g2,c1,c2⟩:=g2
  have q5:w'.lim≤w.next + 1:=by omega
  simp only [l63] at g3
  simp [t2,t3,g3,g2,c1,c2,q5,cellsOf_agg,l63,l63_take,l63_drop,tupV]
  refine ⟨fun x hx=>?_,by show w.next≤w'.next; have:w.next + 1 + 1 + 1≤w'.next:=hnx; omega,hlm'⟩
  show (w'.heap.put _ _).get x=_
  rw [get_put,if_neg (by omega),hkp.old x (by show x < w.next + 1 + 1 + 1; omega) (by omega)]
  simp [show ¬ x=w.next by omega,show ¬ x=w.next + 1 by omega,show ¬ x=w.next + 1 + 1 by omega]
def lsF (n:Nat) (x:Int→Int):List Int:=(List.range n).map fun (k:Nat)=>x (k:Int)
@[simp] theorem lsF_len (n:Nat) (x:Int→Int):(lsF n x).length=n:=by simp [lsF]
theorem arC_flat (x:Int→Int):arC x=(lsF 8 x).flatMap intC:=rfl
theorem sl76 (w:AW) (B k:Nat) (hk:k≤8):sliceA Tryz.prog w 76 (.pointer (some ⟨B,0,none⟩)) none (some (.int .i64 (k:Int))) none=.val (.slice (some ⟨B,0,some 1⟩) k 8) w:=by
 show sliceA Tryz.prog w 76 (.pointer (some ⟨B,0,none⟩)) none (some (.int .i64 (Int.ofNat k))) none=_
 have hb':Nat.ble k 8=true:=Nat.ble_eq_true_of_le hk
 simp [sliceA,sliceB1,arr61,size3,sliceArr,boundA,hb']
@[simp] theorem eqn26s (B n c:Nat) (w:AW):(binW Tryz.prog .eql 23 true).val (.slice (some ⟨B,0,some 1⟩) n c) (.slice none 0 0) w=.val (.bool false) w:=by kernel_rfl
@[simp] theorem isC_tmp (n:Nat):isConst (.tmp n)=false:=rfl
@[simp] theorem isC_const (v:Value):isConst (.const v)=true:=rfl
theorem lsF_take {n m:Nat} (h:n≤m) (x:Int→Int):(lsF m x).take n=lsF n x:=by
 unfold lsF
 rw [← List.map_take,List.take_range,Nat.min_eq_left h]
theorem call48 {ov:Ov} (m:Nat) (ho:∀ args w,ov 48 args w=none) (x:Int→Int) (n c:Nat) (hn0:0 < n) (hn:n≤8) (B0:Nat) (we:AW) (hlim:we.lim≤we.next) (hB:we.heap.get B0=some (.cells (arC x) 76 false)) (hb:B0 < we.next) :
  ∃ v w',(run Tryz.prog ov (m + 1)).call 48 [.slice (some ⟨B0,0,some 1⟩) n c] we .none=.ok (.ret v) w' .none∧RowsV intC w' v (lsF n x)∧Up we w'∧notJunk v=some v:=by
 refine call_wp text48 (by simp) (ho _ _) ?_
 have nj:∀ (a:Addr) n c,notJunk (.slice (some a) n c)=some (.slice (some a) n c):=fun _ _ _=>rfl
 have hl:((lsF n x).flatMap intC).length=n * 1:=by rw [flat_length intC_length,lsF_len]
 have hsrc:srcCells ⟨we.heap.put we.next (some (.cells [] 3 false)),we.next + 1,we.lim⟩ 1 (.slice (some ⟨B0,0,some 1⟩) n c)=some ((lsF n x).flatMap intC):=by
  have e1:Nat.beq (n * 1) 0=false:=by rw [← Bool.not_eq_true]; intro h; have:=Nat.eq_of_beq_eq_true h; omega
  show (bif Nat.beq (n * 1) 0 then some [] else rd _ B0 0 (n * 1))=_
  rw [e1,cond_false,rd_eq]
  show rdO ((we.heap.put we.next _).get B0) 0 (n * 1)=_
  have e2:(arC x).take (n * 1)=(lsF n x).flatMap intC:=by
   have e:(lsF 8 x).flatMap intC=((lsF 8 x).take n).flatMap intC++((lsF 8 x).drop n).flatMap intC:=by rw [← List.flatMap_append,List.take_append_drop]
   rw [arC_flat,e,lsF_take hn,List.take_left' hl]
  rw [get_put,if_neg (by omega),hB,rdO_cells,if_pos (by rw [arC_len]; omega),List.drop_zero,e2]
 have hap:=append_lit (P:=Tryz.prog) list26 elem23 size3 small3 (w:=⟨we.heap.put we.next (some (.cells [] 3 false)),we.next + 1,we.lim⟩) (B:=we.next) (m:=n) (new:=(lsF n x).flatMap intC) (x:=.slice (some ⟨B0,0,some 1⟩) n c) rfl hsrc hl hn0 (by omega)
 simp [mc48,hap,nj,tupV]
 refine ⟨.inr ⟨we.next + 1,0,none,n,by rw [lsF_len],⟨[],[],3,false,by simp,rfl⟩,Nat.lt_succ_self _⟩,((Up.refl we).add _).add _⟩
theorem call27 {ov:Ov} (m:Nat) (ho:∀ args w,ov 27 args w=none) (ho64:∀ args w,ov 48 args w=none) (pv dv:Value) (o x:Int→Int) (ps:List Pt) (ds:List Dt) (w:AW) (hl:w.lim≤w.next) (hL:LedV w pv dv ps ds) (h1:1≤ps.length) (h8:ps.length≤8) :
  ∃ v w',(run Tryz.prog ov (m + 2)).call 27 [.agg ⟨l63 pv dv o⟩,.agg ⟨arC x⟩] w .none=.ok (.ret v) w' .none∧RowsV intC w' v (lsF ps.length x)∧Up w w'∧notJunk v=some v:=by
 refine call_wp text27 (by simp) (ho _ _) ?_
 have hl22:=fun w2=>len37V (w':=w2) hL.p
 obtain ⟨w1,hw1⟩:∃ w1,w1=(⟨(w.heap.put w.next (some (.cells (l63 pv dv o) 78 false))).put (w.next + 1) (some (.cells (arC x) 76 false)),w.next + 1 + 1,w.lim⟩:AW):=⟨_,rfl⟩
 have u1:Up w w1:=by
  rw [hw1]
  exact ((Up.refl w).put (Nat.le_refl _) (Nat.le_refl _)).put (Nat.le_succ _) (by omega)
 have n1:w1.next=w.next + 1 + 1:=by rw [hw1]
 have m1:w1.lim=w.lim:=by rw [hw1]
 have a3:w1.heap.get (w.next + 1)=some (.cells (arC x) 76 false):=by rw [hw1]; simp
 obtain ⟨v,w',hc,hr,hu,hj⟩:=call48 (ov:=ov) m ho64 x ps.length 8 (by omega) h8 (w.next + 1) w1 (by omega) a3 (by omega)
 have hsl:=fun w=>sl76 w (w.next + 1) ps.length h8
 have hs:=fun (w2:AW)=>sl76 w2 (w.next + 1) ps.length h8
 rw [hw1] at hc
 simp only [l63] at hc
 simp [mc27,cellsOf_agg,l63,hl22,hs,hc,hj,tupV]
 exact ⟨hr,u1.trans hu⟩
def paL (ds:List Dt) (x:Int→Int) (i:Nat):List Int:=(ds.take i).map fun d=>ptD (owD ds) x d
theorem paL_step {ds:List Dt} (x:Int→Int) {i:Nat} {d:Dt} (h:ds[i]?=some d):paL ds x (i + 1)=paL ds x i++[ptD (owD ds) x d]:=by
 unfold paL; rw [List.take_add_one,h,List.map_append]; rfl
def paF (ds:List Dt) (x:Int→Int):List Int:=ds.map fun d=>ptD (owD ds) x d
theorem paL_all (ds:List Dt) (x:Int→Int):paL ds x ds.length=paF ds x:=by unfold paL paF; rw [List.take_length]
theorem call30 {ov:Ov} (m:Nat) (ho:∀ args w,ov 30 args w=none) (h63:HasP ov 50 S50.F) (pv dv:Value) (ps:List Pt) (ds:List Dt) (x:Int→Int) (w:AW) (hl:w.lim≤w.next) (hL:LedV w pv dv ps ds) (hk:LK ps ds) (hx:∀ p,0≤x p∧x p≤owD ds p) :
  ∃ v w',(run Tryz.prog ov (m + 2)).call 30 [.agg ⟨l63 pv dv (owD ds)⟩,.agg ⟨arC x⟩] w .none=.ok (.ret v) w' .none∧RowsV intC w' v (paF ds x)∧Up w w'∧notJunk v=some v:=by
 refine call_wp text30 (by simp) (ho _ _) ?_
 have hl23:=fun w2=>len38V (w':=w2) hL.d
 have h16:=hk.d16
 have h8:=hk.n8
 obtain ⟨w1,hw1⟩:∃ w1,w1=(⟨(w.heap.put w.next (some (.cells (l63 pv dv (owD ds)) 78 false))).put (w.next + 1) (some (.cells (arC x) 76 false)),w.next + 1 + 1,w.lim⟩:AW):=⟨_,rfl⟩
 have u1:Up w w1:=by
  rw [hw1]
  exact ((Up.refl w).put (Nat.le_refl _) (Nat.le_refl _)).put (Nat.le_succ _) (by omega)
 have n1:w1.next=w.next + 1 + 1:=by rw [hw1]
 have m1:w1.lim=w.lim:=by rw [hw1]
 have a2:w1.heap.get w.next=some (.cells (pv::dv::arC (owD ds)) 78 false):=by rw [hw1]; simp [l63]
 have a3:w1.heap.get (w.next + 1)=some (.cells (arC x) 76 false):=by rw [hw1]; simp
 simp only [l63] at hw1
 simp [mc30,cellsOf_agg,l63,hl23]
 rw [← hw1]
 refine wp_seqX (wp_blockX (wp_rounds (fun i t w'=>Up w1 w'∧(∃ B,AccQ intC 3 (w.next + 1) w' (tget t 5) (paL ds x i) B)∧tget t 2=.pointer (some ⟨w.next,0,none⟩)∧tget t 3=.pointer (some ⟨w.next + 1,0,none⟩)∧tget t 10=dv∧tget t 11=.int .i64 (ds.length:Nat)∧tget t 12=.int .i64 (i:Nat)∧i≤ds.length) 20 (by decide) ⟨Up.refl _,⟨0,.inl ⟨by simp [paL],by simp⟩⟩,by simp,by simp,by simp,by simp,by simp,Nat.zero_le _⟩ ?_))
 rintro i t w' ⟨hu,⟨B,hacc⟩,t2,t3,t10,t11,t12,hi⟩
 have hw1':IntKind.wrap .i64 ((i:Int) + 1)=(i:Int) + 1:=wrap64_in (by omega) (by omega)
 have hlm:=hu.lim
 have hnx:=hu.next
 by_cases hlt:i < ds.length
 ·obtain ⟨d,hd⟩:∃ a,ds[i]?=some a:=⟨_,List.getElem?_eq_getElem hlt⟩
  have hdm:=List.mem_of_getElem? hd
  obtain ⟨b,off,sq,c,rfl,hra⟩:=(hL.d.up (u1.trans hu)).at_ i hlt
  have hld:=hra.rd dtC_length hd
  have hia:=fun w=>ia38 w ⟨b,off,sq⟩ ds.length c .i64 i hlt
  have hdb:=hk.debt d hdm
  have hxf:=hx d.f
  have hol:=hk.ow_le d.f
  have hop:=hk.ow_pos hdm
  have r63:=fun w=>S50.call (P:=Tryz.prog) h63 (m:=m) (w:=w) ⟨pv,.slice (some ⟨b,off,sq⟩) ds.length c,owD ds,x,d,rfl,⟨hdb.1.1,by omega⟩,hdb.2.2.2,⟨hxf.1,by omega⟩,by omega,rfl⟩
  have hst:=paL_step x hd
  obtain ⟨V,hV⟩:∃ V,V=ptD (owD ds) x d:=⟨_,rfl⟩
  rw [← hV] at r63 hst
  obtain ⟨f,tt,cc⟩:=d
  simp only [dtC,l63] at hld r63
  have b2:=hu.at (b:=w.next) (by omega)
  rw [a2] at b2
  have b3:=hu.at (b:=w.next + 1) (by omega)
  rw [a3] at b3
  have q0:¬ w.next=w'.next:=by omega
  have q01:¬ w.next + 1=w'.next:=by omega
  have q5:w'.lim≤w'.next:=by omega
  obtain ⟨w2,hw2⟩:∃ w2,w2=(⟨(w'.heap.put w'.next (some (.cells [.int .i64 0,.int .i64 0,.int .i64 0] 53 false))).put w'.next (some (.cells [.int .i64 f,.int .i64 tt,.int .i64 cc] 53 false)),w'.next + 1,w'.lim⟩:AW):=⟨_,rfl⟩
  have u2:Up w' w2:=hw2 ▸ ((Up.refl w').add _).put (Nat.le_refl _) (Nat.le_refl _)
  have n2:w2.next=w'.next + 1:=by rw [hw2]
  have m2:w2.lim=w'.lim:=by rw [hw2]
  have hacc2:AccQ intC 3 (w.next + 1) w2 (tget t 5) (paL ds x i) B:=hacc.keep (fun _ _ h=>u2.at h) u2.next
  obtain ⟨v',w4,ha,⟨B',hB',hacc'⟩,hkp,hn4,hl4⟩:=AccQ.push2 (P:=Tryz.prog) (st:=23) (sz:=1) list26 elem23 size3 small3 intC_length (fun _=>by simp [intC]) (by decide) hacc2 (by omega) (by omega) (by unfold paL; rw [List.length_map,List.length_take]; omega) V
  rw [← hst] at hacc'
  rw [hw2] at ha
  simp only [intC] at ha
  simp [mc30_l0,t2,t3,t10,t11,t12,hlt,hia,hld,b2,b3,q0,q01,q5,r63,ha,hw1']
  refine ⟨by omega,⟨fun y hy=>?_,by omega,by omega⟩,⟨B',hacc'⟩,hlt⟩
  rw [hkp y (by omega) (fun hne=>by have:=hacc2.lt hne; omega),u2.at (by omega)]
  exact hu.at hy
 ·have hi':i=ds.length:=by omega
  subst hi'
  rw [paL_all] at hacc
  have hok:=hacc.ok
  simp [mc30_l0,t11,t12,hok,tupV]
  exact ⟨hacc.rows,u1.trans hu⟩
def okR (f:Nat→Bool) (i:Nat):Prop:=(List.range i).all f=true
theorem okR.zero (f:Nat→Bool):okR f 0:=by simp [okR]
theorem okR.succ {f:Nat→Bool} {i:Nat} (h:okR f i) (k:f i=true):okR f (i + 1):=by
 unfold okR at *
 rw [List.range_succ,List.all_append,h]; simp [k]
theorem okR.bad {f:Nat→Bool} {n i:Nat} (hi:i < n) (h:f i=false):(List.range n).all f=false:=by
 cases hq:(List.range n).all f with
 | false=>rfl
 | true =>
  have:=List.all_eq_true.1 hq i (List.mem_range.2 hi)
  rw [h] at this; cases this
theorem okR.at {f:Nat→Bool} {n i:Nat} (h:(List.range n).all f=true) (hi:i < n):f i=true:=List.all_eq_true.1 h i (List.mem_range.2 hi)
def nmsTo (ps:List Pt) (i:Nat):List ByteArray:=(ps.take i).map Pt.nm
theorem nmsTo_len {ps:List Pt} {i:Nat} (h:i≤ps.length):(nmsTo ps i).length=i:=by simp [nmsTo]; omega
theorem nmsTo_step {ps:List Pt} {i:Nat} {p:Pt} (h:ps[i]?=some p):nmsTo ps i++[p.nm]=nmsTo ps (i + 1):=by
 unfold nmsTo; rw [List.take_add_one,h,List.map_append]; rfl
def prB (ps:List Pt) (i:Nat):Bool:=match ps[i]? with
 | some p=>wordB p.nm.data.toList && (!hasT (nmsTo ps i) p.nm && inI 0 p.ch 100000)
 | none=>true
def parB (ps:List Pt):Bool:=inI 1 (ps.length:Nat) 8 && (List.range ps.length).all (prB ps)
def S65:PSpec where
 R args w v:=∃ (pv:Value) (ps:List Pt),args=[pv]∧RowsV ptC w pv ps∧v=.bool (parB ps)
 uniq:=by
  rintro _ _ _ _ ⟨pv,ps,rfl,h1,rfl⟩ ⟨pv',ps',h,k1,rfl⟩
  cases h
  rw [h1.uniq (m:=2) ptC_length ptC_inj k1]
 shut h:=h
theorem run65 {ov:Ov} (ho:∀ args w,ov 65 args w=none) (h57:HasP ov 40 S9.F) (h75:HasP ov 80 S80.F) (pv:Value) (ps:List Pt) (w:AW) (hl:w.lim=w.next) (hv:RowsV ptC w pv ps):∃ v w',(run Tryz.prog ov 2).call 65 [pv] w .none=.ok (.ret v) w' .none∧v=.bool (parB ps):=by
 refine call_wp text65 (by simp) (ho _ _) ?_
 have hl1:=fun w2=>len37V (w':=w2) hv
 have r57:=fun n a b w=>S9.call1 (P:=Tryz.prog) h57 (w:=w) ⟨n,a,b,rfl,rfl⟩
 have r75:=fun s w=>S80.call1 (P:=Tryz.prog) h75 (w:=w) ⟨s,rfl,rfl⟩
 cases h8:inI 1 (ps.length:Nat) 8 with
 | false =>
  have e:parB ps=false:=by unfold parB; rw [h8]; rfl
  simp [mc65,hl1,r57,h8,tupV,e]
 | true =>
  have hn:=h8
  simp only [inI,Bool.and_eq_true,decide_eq_true_eq] at hn
  obtain ⟨w1,hw1⟩:∃ w1,w1=(⟨w.heap.put w.next (some (.map [] 0)),w.next + 1,w.lim⟩:AW):=⟨_,rfl⟩
  have u1:Up w w1:=hw1 ▸ (Up.refl w).add _
  have n1:w1.next=w.next + 1:=by rw [hw1]
  have m1:w1.lim=w.lim:=by rw [hw1]
  have g1:w1.heap.get w.next=some (.map (entsFrom 0 (nmsTo ps 0)) 0):=by rw [hw1]; simp [nmsTo,entsFrom]
  simp [mc65,hl1,r57,h8]
  rw [← hw1]
  refine wp_seqX (wp_blockX (wp_rounds (fun i t w'=>Kp w.next w1 w'∧w'.heap.get w.next=some (.map (entsFrom 0 (nmsTo ps i)) i)∧tget t 3=.map (some w.next)∧tget t 11=pv∧tget t 12=.int .i64 (ps.length:Nat)∧tget t 13=.int .i64 (i:Nat)∧i≤ps.length∧okR (prB ps) i) 20 (by decide) ⟨Kp.refl _ _,g1,by simp,by simp,by simp,by simp,Nat.zero_le _,okR.zero _⟩ ?_))
  rintro i t w' ⟨hkp,gm,t3,t11,t12,t13,hi,hall⟩
  have hw1':IntKind.wrap .i64 ((i:Int) + 1)=(i:Int) + 1:=wrap64_in (by omega) (by omega)
  have hlm:=hkp.lim
  have hnx:=hkp.next
  by_cases hlt:i < ps.length
  ·obtain ⟨a,ha⟩:∃ a,ps[i]?=some a:=⟨_,List.getElem?_eq_getElem hlt⟩
   obtain ⟨b,off,sq,c,rfl,hra⟩:=(hv.up (hkp.up u1 (Nat.le_refl _))).at_ i hlt
   have hld:=hra.rd ptC_length ha
   have hia:=fun w=>ia37 w ⟨b,off,sq⟩ ps.length c .i64 i hlt
   have hpr:prB ps i=(wordB a.nm.data.toList && (!hasT (nmsTo ps i) a.nm && inI 0 a.ch 100000)):=by unfold prB; rw [ha]
   have hbad:prB ps i=false→parB ps=false:=fun h=>by unfold parB; rw [okR.bad hlt h,Bool.and_false]
   have hst:=nmsTo_step ha
   obtain ⟨nm,ch⟩:=a
   simp only [ptC] at hld
   simp only at hpr hst
   have q0:¬ w.next=w'.next:=by omega
   have q5:w'.lim≤w'.next:=by omega
   have q6:w'.lim≤w.next:=by omega
   have hc:=nmsTo_len (ps:=ps) (i:=i) hi
   cases k1:wordB nm.data.toList with
   | false =>
    have e:=hbad (by rw [hpr,k1]; rfl)
    simp [mc65_l0,t3,t11,t12,t13,hlt,hia,hld,q0,q5,gm,r75,r57,k1,tupV,e]
   | true =>
    cases k2:hasT (nmsTo ps i) nm with
    | true =>
     have e:=hbad (by rw [hpr,k1,k2]; rfl)
     simp [mc65_l0,t3,t11,t12,t13,hlt,hia,hld,q0,q5,gm,r75,r57,k1,k2,tupV,e]
    | false =>
     cases k3:inI 0 ch 100000 with
     | false =>
      have e:=hbad (by rw [hpr,k1,k2,k3]; rfl)
      simp [mc65_l0,t3,t11,t12,t13,hlt,hia,hld,q0,q5,gm,r75,r57,k1,k2,k3,tupV,e]
     | true =>
      have hm:=hall.succ (by rw [hpr,k1,k2,k3]; rfl)
      simp [mc65_l0,t3,t11,t12,t13,hlt,hia,hld,q0,q5,q6,gm,r75,r57,k1,k2,k3,hc,hst,hw1']
      exact ⟨by omega,((hkp.new (.inl hnx) (Nat.le_refl _)).new (.inl hnx) (Nat.le_refl _)).new (.inr rfl) (Nat.le_succ _),hlt,hm⟩
  ·have hi':i=ps.length:=by omega
   subst hi'
   have e:parB ps=true:=by unfold parB; rw [h8,hall]; rfl
   simp [mc65_l0,t12,t13,tupV,e]
def S82:PSpec where
 R args _ v:=∃ d:Dt,args=[.agg ⟨dtC d⟩]∧v=.agg ⟨[.int .i64 d.f,.int .i64 d.t,.int .i64 0]⟩
 uniq:=by
  rintro _ _ _ _ ⟨d,rfl,rfl⟩ ⟨d',h,rfl⟩
  simp only [List.cons.injEq,Value.agg.injEq,Array.mk.injEq,and_true] at h
  rw [dtC_inj _ _ h]
 shut h:=h
theorem run82 {ov:Ov} (ho:∀ args w,ov 82 args w=none) (d:Dt) (w:AW) (hl:w.lim=w.next):∃ v w',(run Tryz.prog ov 2).call 82 [.agg ⟨dtC d⟩] w .none=.ok (.ret v) w' .none∧v=.agg ⟨[.int .i64 d.f,.int .i64 d.t,.int .i64 0]⟩:=by
 refine call_wp text82 (by simp) (ho _ _) ?_
 have hle:w.next≤w.next + 1:=Nat.le_succ _
 simp [mc82,cellsOf_agg,dtC,hl,hle,tupV]
def S81:PSpec where
 R args w v:=∃ (pv dv:Value) (ps:List Pt) (i:Int),args=[.agg ⟨[pv,dv]⟩,.int .i64 i]∧RowsV ptC w pv ps∧ps.length≤1000∧v=.bool (inI 0 i ((ps.length:Int) - 1))
 uniq:=by
  rintro _ _ _ _ ⟨pv,dv,ps,i,rfl,h1,_,rfl⟩ ⟨pv',dv',ps',i',h,k1,_,rfl⟩
  simp only [List.cons.injEq,Value.agg.injEq,Array.mk.injEq,Value.int.injEq,and_true,true_and] at h
  obtain ⟨⟨rfl,rfl⟩,rfl⟩:=h
  rw [h1.uniq (m:=2) ptC_length ptC_inj k1]
 shut h:=h
theorem run81 {ov:Ov} (ho:∀ args w,ov 81 args w=none) (h57:HasP ov 40 S9.F) (pv dv:Value) (ps:List Pt) (i:Int) (w:AW) (hl:w.lim=w.next) (hv:RowsV ptC w pv ps) (h8:ps.length≤1000):∃ v w',(run Tryz.prog ov 2).call 81 [.agg ⟨[pv,dv]⟩,.int .i64 i] w .none=.ok (.ret v) w' .none∧v=.bool (inI 0 i ((ps.length:Int) - 1)):=by
 refine call_wp text81 (by simp) (ho _ _) ?_
 have hl1:=fun w2=>len37V (w':=w2) hv
 have r57:=fun n a b w=>S9.call1 (P:=Tryz.prog) h57 (w:=w) ⟨n,a,b,rfl,rfl⟩
 have w1:IntKind.wrap .i64 ((ps.length:Int) - 1)=(ps.length:Int) - 1:=wrap64_in (by omega) (by omega)
 simp [mc81,cellsOf_agg,hl1,r57,w1,tupV]
theorem slice_head {P:Program} {st e:TypeId} {sz:Nat} (h1:elemA P st=some e) (h2:szOf P e=some sz) {w:AW} {a:Addr} {n c k:Nat} {cs:List Value} {e':TypeId} {ro:Bool} (hg:w.heap.get a.block=some (.cells cs e' ro)) (hk:k≤c) :
  sliceA P w st (.slice (some a) n c) none (some (.int .i64 (k:Int))) none=.val (.slice (some ⟨a.block,a.off,bif Nat.beq e e' && a.spot.isNone then none else some 1⟩) k c) w:=by
 show sliceA P w st (.slice (some a) n c) none (some (.int .i64 (Int.ofNat k))) none=_
 have hb':Nat.ble k c=true:=Nat.ble_eq_true_of_le hk
 simp [sliceA,sliceB1,h1,h2,sliceRow,boundA,hb',cutR,cutAddr,rowElem,hg]
theorem elem38:elemA Tryz.prog 38=some 53:=by kernel_rfl
theorem sz53:szOf Tryz.prog 53=some 3:=by kernel_rfl
theorem eq_bt (a b c d:Int):sameL [0,0,0] [.int .i64 a,.int .i64 b,.int .i64 0] [.int .i64 c,.int .i64 d,.int .i64 0]=some (decide (a=c) && decide (b=d)):=by
 simp [sameL,same1,sameInt,sameK_refl,intEq_eq]
 try (by_cases h1:a=c <;> by_cases h2:b=d <;> simp [h1,h2])
def dsB (ds:List Dt) (d:Dt) (k:Nat):Bool:=match ds[k]? with
 | some e=>!(decide (d.f=e.f) && decide (d.t=e.t))
 | none=>true
def dtB (ps:List Pt) (ds:List Dt) (i:Nat):Bool:=match ds[i]? with
 | some d=>inI 0 d.f ((ps.length:Int) - 1) && (inI 0 d.t ((ps.length:Int) - 1) && (!decide (d.f=d.t) && (inI 1 d.c 100000 && (List.range i).all (dsB ds d))))
 | none=>true
def debB (ps:List Pt) (ds:List Dt):Bool:=decide (ds.length≤16) && (List.range ds.length).all (dtB ps ds)
def S66:PSpec where
 R args w v:=∃ (pv dv:Value) (ps:List Pt) (ds:List Dt),args=[.agg ⟨[pv,dv]⟩]∧LedV w pv dv ps ds∧ps.length≤1000∧v=.bool (debB ps ds)
 uniq:=by
  rintro _ _ _ _ ⟨pv,dv,ps,ds,rfl,h1,_,rfl⟩ ⟨pv',dv',ps',ds',h,k1,_,rfl⟩
  simp only [List.cons.injEq,Value.agg.injEq,Array.mk.injEq,and_true] at h
  obtain ⟨rfl,rfl⟩:=h
  rw [h1.uniqP k1,h1.uniqD k1]
 shut:=by
  rintro _ _ _ ⟨pv,dv,ps,ds,h1,h2,h3⟩
  exact ⟨pv,dv,ps,ds,h1,h2.shut,h3⟩
theorem loop66 {ov:Ov} (h76:HasP ov 82 S82.F) (dv:Value) (ds:List Dt) (h16:ds.length≤16) (d:Dt) (i:Nat) (hi16:i≤ds.length) (we w2:AW) (hD:RowsV dtC we dv ds) (u2:Up we w2) (hl:w2.lim≤w2.next) (B4:Nat) (hB:B4 < w2.next) (g4:w2.heap.get B4=some (.cells (dtC d) 53 false)) (b off:Nat) (sq:Option Nat) (c:Nat) (hra:RowsA dtC w2.heap w2.next b off ds) (v1 v12 v13 v14:Value)
  (Q:Ex→Tm→AW→Prop) (t:Tm) (t1:tget t 1=v1) (t12:tget t 12=v12) (t13:tget t 13=v13) (t14:tget t 14=v14) (t4:tget t 4=.pointer (some ⟨B4,0,none⟩)) (t47:tget t 47=.slice (some ⟨b,off,sq⟩) i c) (t48:tget t 48=.int .i64 (i:Nat)) (t49:tget t 49=.int .i64 0)
  (hQ:∀ t w',Up w2 w'→okR (dsB ds d) i→tget t 1=v1→tget t 12=v12→tget t 13=v13→tget t 14=v14→Q (.exit 2) t w')
  (hR:∀ t w',(∃ k,k < i∧dsB ds d k=false)→tget t 2=.bool false→Q .ret t w'):wp (exM Tryz.prog (run Tryz.prog ov 1) (.loop mc66_l1) t w2) Q:=by
 refine wp_rounds (fun k t w'=>Up w2 w'∧tget t 1=v1∧tget t 12=v12∧tget t 13=v13∧tget t 14=v14∧tget t 4=.pointer (some ⟨B4,0,none⟩)∧tget t 47=.slice (some ⟨b,off,sq⟩) i c∧tget t 48=.int .i64 (i:Nat)∧tget t 49=.int .i64 (k:Nat)∧k≤i∧okR (dsB ds d) k) 20 (by decide) ⟨Up.refl _,t1,t12,t13,t14,t4,t47,t48,by simpa using t49,Nat.zero_le _,okR.zero _⟩ ?_
 clear t1 t12 t13 t14 t4 t47 t48 t49
 rintro k t w' ⟨hu,t1,t12,t13,t14,t4,t47,t48,t49,hk,hall⟩
 have hlm:=hu.lim
 have hnx:=hu.next
 by_cases hlt:k < i
 ·obtain ⟨e,he⟩:∃ e,ds[k]?=some e:=⟨_,List.getElem?_eq_getElem (by omega)⟩
  have hra':=hra.old hu.old hu.next
  have hld:=hra'.rd dtC_length he
  have hia:=fun w=>ia38 w ⟨b,off,sq⟩ i c .i64 k hlt
  have g:=hu.at hB
  rw [g4] at g
  have r76:=fun d w=>S82.call1 (P:=Tryz.prog) h76 (w:=w) ⟨d,rfl,rfl⟩
  have r1:=r76 d
  have r2:=r76 e
  have hb:dsB ds d k=!(decide (d.f=e.f) && decide (d.t=e.t)):=by unfold dsB; rw [he]
  obtain ⟨df,dt,dc⟩:=d
  obtain ⟨ef,et,ec⟩:=e
  simp only [dtC] at hld g r1 r2
  simp only at hb
  have q0:¬ B4=w'.next:=by omega
  have q5:w'.lim≤w'.next:=by omega
  have hw1':IntKind.wrap .i64 ((k:Int) + 1)=(k:Int) + 1:=wrap64_in (by omega) (by omega)
  have hsm:∀ a b c:Int,sameVal 5 (.agg ⟨[.int .i64 a,.int .i64 b,.int .i64 c]⟩) (.agg ⟨[.int .i64 a,.int .i64 b,.int .i64 c]⟩)=true:=fun a b c=>same_agg _ (by
   intro v hv
   simp only [List.mem_cons,List.not_mem_nil,or_false] at hv
   rcases hv with rfl | rfl | rfl <;> exact sameN_int _ _ _)
  cases hE:(decide (df=ef) && decide (dt=et)) with
  | true =>
   rw [hE] at hb
   simp [mc66_l1,t1,t12,t13,t14,t4,t47,t48,t49,hlt,hia,hld,g,q0,q5,r1,r2,eq_bt,hE,hsm]
   exact hR _ _ ⟨k,hlt,hb⟩ (by simp)
  | false =>
   rw [hE] at hb
   have hm:=hall.succ hb
   simp [mc66_l1,t1,t12,t13,t14,t4,t47,t48,t49,hlt,hia,hld,g,q0,q5,r1,r2,eq_bt,hE,hsm,hw1']
   exact ⟨by omega,(hu.add _).put hu.next (Nat.le_refl _),hlt,hm⟩
 ·have hk':k=i:=by omega
  subst hk'
  simp [mc66_l1,t48,t49]
  exact hQ _ _ hu hall (by simp [t1]) (by simp [t12]) (by simp [t13]) (by simp [t14])
set_option maxHeartbeats 1000000 in
theorem run66 {ov:Ov} (ho:∀ args w,ov 66 args w=none) (h54:HasP ov 81 S81.F) (h57:HasP ov 40 S9.F) (h76:HasP ov 82 S82.F) (pv dv:Value) (ps:List Pt) (ds:List Dt) (w:AW) (hl:w.lim=w.next) (hL:LedV w pv dv ps ds) (hn:ps.length≤1000):∃ v w',(run Tryz.prog ov 2).call 66 [.agg ⟨[pv,dv]⟩] w .none=.ok (.ret v) w' .none∧v=.bool (debB ps ds):=by
 refine call_wp text66 (by simp) (ho _ _) ?_
 have hl1:=fun w2=>len38V (w':=w2) hL.d
 by_cases h16:16 < ds.length
 ·have e:debB ps ds=false:=by unfold debB; rw [decide_eq_false (by omega)]; rfl
  have h16':(16:Int) < (ds.length:Int):=by omega
  simp [mc66,cellsOf_agg,hl1,h16',tupV,e]
 ·have h16':¬ (16:Int) < (ds.length:Int):=by omega
  obtain ⟨w1,hw1⟩:∃ w1,w1=(⟨w.heap.put w.next (some (.cells [pv,dv] 40 false)),w.next + 1,w.lim⟩:AW):=⟨_,rfl⟩
  have u1:Up w w1:=hw1 ▸ (Up.refl w).add _
  have n1:w1.next=w.next + 1:=by rw [hw1]
  have m1:w1.lim=w.lim:=by rw [hw1]
  have g1:w1.heap.get w.next=some (.cells [pv,dv] 40 false):=by rw [hw1]; simp
  simp [mc66,cellsOf_agg,hl1,h16']
  rw [← hw1]
  refine wp_seqX (wp_blockX (wp_rounds (fun i t w'=>Up w1 w'∧tget t 1=.pointer (some ⟨w.next,0,none⟩)∧tget t 12=dv∧tget t 13=.int .i64 (ds.length:Nat)∧tget t 14=.int .i64 (i:Nat)∧i≤ds.length∧okR (dtB ps ds) i) 20 (by decide) ⟨Up.refl _,by simp,by simp,by simp,by simp,Nat.zero_le _,okR.zero _⟩ ?_))
  rintro i t w' ⟨hu,t1,t12,t13,t14,hi,hall⟩
  have hlm:=hu.lim
  have hnx:=hu.next
  by_cases hlt:i < ds.length
  ·obtain ⟨d,hd⟩:∃ e,ds[i]?=some e:=⟨_,List.getElem?_eq_getElem hlt⟩
   have hLw:=hL.up (u1.trans hu)
   obtain ⟨b,off,sq,c,rfl,hra⟩:=hLw.d.at_ i hlt
   obtain ⟨_,_,_,hcap,hcap'⟩:=hLw.cd
   cases hcap
   have hld:=hra.rd dtC_length hd
   have hia:=fun w=>ia38 w ⟨b,off,sq⟩ ds.length c .i64 i hlt
   have g:=hu.at (b:=w.next) (by omega)
   rw [g1] at g
   have q0:¬ w.next=w'.next:=by omega
   have q5:w'.lim≤w'.next:=by omega
   have hw1':IntKind.wrap .i64 ((i:Int) + 1)=(i:Int) + 1:=wrap64_in (by omega) (by omega)
   have hdt:dtB ps ds i=(inI 0 d.f ((ps.length:Int) - 1) && (inI 0 d.t ((ps.length:Int) - 1) && (!decide (d.f=d.t) && (inI 1 d.c 100000 && (List.range i).all (dsB ds d))))):=by unfold dtB; rw [hd]
   have hbad:dtB ps ds i=false→debB ps ds=false:=fun h=>by unfold debB; rw [okR.bad hlt h,Bool.and_false]
   obtain ⟨w2,hw2⟩:∃ w2,w2=(⟨(w'.heap.put w'.next (some (.cells [.int .i64 0,.int .i64 0,.int .i64 0] 53 false))).put w'.next (some (.cells (dtC d) 53 false)),w'.next + 1,w'.lim⟩:AW):=⟨_,rfl⟩
   have u2:Up w' w2:=hw2 ▸ ((Up.refl w').add _).put (Nat.le_refl _) (Nat.le_refl _)
   have n2:w2.next=w'.next + 1:=by rw [hw2]
   have m2:w2.lim=w'.lim:=by rw [hw2]
   have g4:w2.heap.get w'.next=some (.cells (dtC d) 53 false):=by rw [hw2]; simp
   have hra2:RowsA dtC w2.heap w2.next b off ds:=hra.old u2.old u2.next
   obtain ⟨⟨pre,rest,e',ro,hcs,_⟩,_⟩:=id hra2
   have hsl:=slice_head elem38 sz53 (w:=w2) (a:=⟨b,off,sq⟩) (n:=ds.length) (c:=c) (k:=i) hcs (by omega)
   obtain ⟨s',hs'⟩:∃ s',s'=(bif Nat.beq 53 e' && sq.isNone then none else some 1):=⟨_,rfl⟩
   simp only [← hs'] at hsl
   have r54:=fun i=>S81.call1 (P:=Tryz.prog) h54 (w:=w2) ⟨pv,.slice (some ⟨b,off,sq⟩) ds.length c,ps,i,rfl,hLw.p.up u2,hn,rfl⟩
   have r57:=fun n a b w=>S9.call1 (P:=Tryz.prog) h57 (w:=w) ⟨n,a,b,rfl,rfl⟩
   have key:=fun Q t sq'=>loop66 (ov:=ov) h76 (.slice (some ⟨b,off,sq⟩) ds.length c) ds (by omega) d i hi w' w2 hLw.d u2 (by omega) w'.next (by omega) g4 b off sq' c hra2 (.pointer (some ⟨w.next,0,none⟩)) (.slice (some ⟨b,off,sq⟩) ds.length c) (.int .i64 (ds.length:Nat)) (.int .i64 (i:Nat)) Q t
   rw [hw2] at hsl r54 key
   obtain ⟨df,dt,dc⟩:=d
   simp only [dtC] at hld hsl r54 key
   simp only at hdt
   cases k1:inI 0 df ((ps.length:Int) - 1) with
   | false =>
    have e:=hbad (by rw [hdt,k1]; rfl)
    simp [mc66_l0,t1,t12,t13,t14,hlt,hia,hld,g,q0,q5,r54,r57,k1,tupV,e]
   | true =>
   cases k2:inI 0 dt ((ps.length:Int) - 1) with
   | false =>
    have e:=hbad (by rw [hdt,k1,k2]; rfl)
    simp [mc66_l0,t1,t12,t13,t14,hlt,hia,hld,g,q0,q5,r54,r57,k1,k2,tupV,e]
   | true =>
   by_cases k3:df=dt
   ·have e:=hbad (by rw [hdt,k1,k2,decide_eq_true k3]; rfl)
    subst k3
    simp [mc66_l0,t1,t12,t13,t14,hlt,hia,hld,g,q0,q5,r54,r57,k1,tupV,e]
   ·cases k4:inI 1 dc 100000 with
    | false =>
     have e:=hbad (by rw [hdt,k1,k2,decide_eq_false k3,k4]; rfl)
     simp [mc66_l0,t1,t12,t13,t14,hlt,hia,hld,g,q0,q5,r54,r57,k1,k2,k3,k4,tupV,e]
    | true =>
     have hdt':dtB ps ds i=(List.range i).all (dsB ds ⟨df,dt,dc⟩):=by rw [hdt,k1,k2,decide_eq_false k3,k4]; rfl
     simp [mc66_l0,t1,t12,t13,t14,hlt,hia,hld,g,q0,q5,r54,r57,k1,k2,k3,k4,hsl]
     refine wp_seqX (wp_blockX (wp_blockX (key _ _ s' ?_ ?_ ?_ ?_ ?_ ?_ ?_ ?_ ?_ ?_)))
     case _=>simp [t1]
     case _=>simp [t12]
     case _=>simp [t13]
     case _=>simp [t14]
     case _=>simp
     case _=>simp
     case _=>simp
     case _=>simp
     case _ =>
      intro t w3 hu3 hok t1 t12 t13 t14
      have hm:=hall.succ (by rw [hdt']; exact hok)
      simp [t1,t12,t13,t14,hw1']
      rw [hw2] at u2
      simp only [dtC] at u2
      exact ⟨by omega,(hu.trans u2).trans hu3,hlt,hm⟩
     case _ =>
      intro t w3 ⟨k,hk,hb⟩ t2
      have e:=hbad (by rw [hdt']; exact okR.bad hk hb)
      simp [t2,tupV,e]
  ·have hi':i=ds.length:=by omega
   subst hi'
   have e:debB ps ds=true:=by unfold debB; rw [hall,decide_eq_true (by omega)]; rfl
   simp [mc66_l0,t13,t14,tupV,e]
def ledB (ps:List Pt) (ds:List Dt):Bool:=parB ps && debB ps ds
def chE (ps:List Pt) (ds:List Dt):Int:=if ledB ps ds=true then 0 else 90
theorem led_ok {ps:List Pt} {ds:List Dt} (h:ledB ps ds=true):LOk 100000 ps ds:=by
 simp only [ledB,parB,debB,inI,Bool.and_eq_true,decide_eq_true_eq] at h
 obtain ⟨⟨⟨h1,h2⟩,h3⟩,h4,h5⟩:=h
 refine ⟨by omega,by omega,fun p hp=>?_,h4,fun d hd=>?_⟩
 ·obtain ⟨i,hi⟩:=List.getElem?_of_mem hp
  have hlt:i < ps.length:=(List.getElem?_eq_some_iff.1 hi).1
  have:=okR.at h3 hlt
  unfold prB at this
  rw [hi] at this
  simp only [inI,Bool.and_eq_true,decide_eq_true_eq] at this
  exact this.2.2
 ·obtain ⟨i,hi⟩:=List.getElem?_of_mem hd
  have hlt:i < ds.length:=(List.getElem?_eq_some_iff.1 hi).1
  have:=okR.at h5 hlt
  unfold dtB at this
  rw [hi] at this
  simp only [inI,Bool.and_eq_true,decide_eq_true_eq,Bool.not_eq_true',decide_eq_false_iff_not] at this
  obtain ⟨k1,k2,k3,k4,_⟩:=this
  exact ⟨by omega,by omega,k3,k4⟩
theorem LOk.up {M:Int} {ps:List Pt} {ds:List Dt} (h:LOk M ps ds) {M':Int} (hM:M≤M'):LOk M' ps ds:=⟨h.n1,h.n8,fun p hp=>⟨(h.cash p hp).1,by have:=(h.cash p hp).2; omega⟩,h.d16,h.debt⟩
def S45:PSpec where
 R args w v:=∃ (pv dv:Value) (ps:List Pt) (ds:List Dt),args=[.agg ⟨[pv,dv]⟩]∧LedV w pv dv ps ds∧v=.bool (ledB ps ds)
 uniq:=by
  rintro _ _ _ _ ⟨pv,dv,ps,ds,rfl,h1,rfl⟩ ⟨pv',dv',ps',ds',h,k1,rfl⟩
  simp only [List.cons.injEq,Value.agg.injEq,Array.mk.injEq,and_true] at h
  obtain ⟨rfl,rfl⟩:=h
  rw [h1.uniqP k1,h1.uniqD k1]
 shut:=by
  rintro _ _ _ ⟨pv,dv,ps,ds,h1,h2,h3⟩
  exact ⟨pv,dv,ps,ds,h1,h2.shut,h3⟩
theorem run45 {ov:Ov} (ho:∀ args w,ov 45 args w=none) (h65:HasP ov 65 S65.F) (h66:HasP ov 66 S66.F) (pv dv:Value) (ps:List Pt) (ds:List Dt) (w:AW) (hl:w.lim=w.next) (hL:LedV w pv dv ps ds):∃ v w',(run Tryz.prog ov 2).call 45 [.agg ⟨[pv,dv]⟩] w .none=.ok (.ret v) w' .none∧v=.bool (ledB ps ds):=by
 refine call_wp text45 (by simp) (ho _ _) ?_
 have u1:Up w ⟨w.heap.put w.next (some (.cells [pv,dv] 40 false)),w.next + 1,w.lim⟩:=(Up.refl w).add _
 have r65:=S65.call1 (P:=Tryz.prog) h65 ⟨pv,ps,rfl,hL.p.up u1,rfl⟩
 cases h:parB ps with
 | false =>
  have e:ledB ps ds=false:=by unfold ledB; rw [h]; rfl
  rw [h] at r65
  simp [mc45,cellsOf_agg,r65,tupV,e]
 | true =>
  have h':=h
  simp only [parB,inI,Bool.and_eq_true,decide_eq_true_eq] at h'
  have r66:=S66.call1 (P:=Tryz.prog) h66 ⟨pv,dv,ps,ds,rfl,hL.up u1,by omega,rfl⟩
  have e:ledB ps ds=debB ps ds:=by unfold ledB; rw [h]; rfl
  rw [h] at r65
  simp [mc45,cellsOf_agg,r65,r66,tupV,e]
def S24:PSpec where
 R args w v:=∃ (pv dv:Value) (ps:List Pt) (ds:List Dt),args=[.agg ⟨[pv,dv]⟩]∧LedV w pv dv ps ds∧v=.int .i64 (chE ps ds)
 uniq:=by
  rintro _ _ _ _ ⟨pv,dv,ps,ds,rfl,h1,rfl⟩ ⟨pv',dv',ps',ds',h,k1,rfl⟩
  simp only [List.cons.injEq,Value.agg.injEq,Array.mk.injEq,and_true] at h
  obtain ⟨rfl,rfl⟩:=h
  rw [h1.uniqP k1,h1.uniqD k1]
 shut:=by
  rintro _ _ _ ⟨pv,dv,ps,ds,h1,h2,h3⟩
  exact ⟨pv,dv,ps,ds,h1,h2.shut,h3⟩
theorem run24 {ov:Ov} (ho:∀ args w,ov 24 args w=none) (h47:HasP ov 45 S45.F) (pv dv:Value) (ps:List Pt) (ds:List Dt) (w:AW) (hl:w.lim=w.next) (hL:LedV w pv dv ps ds):∃ v w',(run Tryz.prog ov 2).call 24 [.agg ⟨[pv,dv]⟩] w .none=.ok (.ret v) w' .none∧v=.int .i64 (chE ps ds):=by
 refine call_wp text24 (by simp) (ho _ _) ?_
 have u1:Up w ⟨w.heap.put w.next (some (.cells [pv,dv] 40 false)),w.next + 1,w.lim⟩:=(Up.refl w).add _
 have r47:=S45.call1 (P:=Tryz.prog) h47 ⟨pv,dv,ps,ds,rfl,hL.up u1,rfl⟩
 cases h:ledB ps ds with
 | false =>
  rw [h] at r47
  simp [mc24,cellsOf_agg,r47,tupV,chE,h]
 | true =>
  rw [h] at r47
  simp [mc24,cellsOf_agg,r47,tupV,chE,h]
theorem sm61 (x:Int→Int):sameVal 5 (.agg ⟨arC x⟩) (.agg ⟨arC x⟩)=true:=same_agg _ (by
 intro v hv
 simp only [arC,List.mem_cons,List.not_mem_nil,or_false] at hv
 rcases hv with rfl | rfl | rfl | rfl | rfl | rfl | rfl | rfl <;> exact sameN_int _ _ _)
theorem sm63 {w:AW} {pv dv:Value} {ps:List Pt} {ds:List Dt} (h:LedV w pv dv ps ds) (o:Int→Int):sameVal 5 (.agg ⟨pv::dv::arC o⟩) (.agg ⟨pv::dv::arC o⟩)=true:=same_agg _ (by
 obtain ⟨a,c,rfl⟩:=h.p.len
 obtain ⟨a',c',rfl⟩:=h.d.len
 intro v hv
 simp only [arC,List.mem_cons,List.not_mem_nil,or_false] at hv
 rcases hv with rfl | rfl | rfl | rfl | rfl | rfl | rfl | rfl | rfl | rfl <;> first | exact sameN_int _ _ _ | exact sameN_slice _ _ _ _)
theorem sg63 {w:AW} {pv dv:Value} {ps:List Pt} {ds:List Dt} (h:LedV w pv dv ps ds) (o:Int→Int):singles (pv::dv::arC o)=true:=by
 obtain ⟨a,c,rfl⟩:=h.p.len
 obtain ⟨a',c',rfl⟩:=h.d.len
 simp [arC]
theorem ch_lk {ps:List Pt} {ds:List Dt} (h:chE ps ds=0):LOk 100000 ps ds:=by
 unfold chE at h
 split at h
 ·rename_i h1; exact led_ok h1
 ·cases h
theorem gfp_go {ps:List Pt} {ds:List Dt} (hk:LK ps ds):∀ (n:Nat) (x:Int→Int),DescD ps ds x→totD x≤(n:Int)→∃ y,GfpD ps ds y
 | 0,x,hd,hn=>by
  refine ⟨x,hk.desc_gfp hd ?_⟩
  cases hE:arE (nxD ps ds x) x with
  | true=>exact fun p=>by rw [arC_uniq (hk.nx8 x) (z8_of hk hd.rng) (arE_true hE)]
  | false =>
   have:=desc_less hk hd hE
   have h2:=hk.desc_next hd
   have:=(tot_in (x:=nxD ps ds x) fun p=>⟨(h2.rng p).1,by have:=(h2.rng p).2; have:=hk.ow_le p; omega⟩).1
   omega
 | n + 1,x,hd,hn=>by
  cases hE:arE (nxD ps ds x) x with
  | true=>exact ⟨x,hk.desc_gfp hd fun p=>by rw [arC_uniq (hk.nx8 x) (z8_of hk hd.rng) (arE_true hE)]⟩
  | false =>
   have:=desc_less hk hd hE
   exact gfp_go hk n _ (hk.desc_next hd) (by omega)
theorem st_gfp {ps:List Pt} {ds:List Dt} (hk:LK ps ds):GfpD ps ds (stF ps ds):=by
 have hb:=tot_in (x:=owD ds) fun p=>⟨hk.ow_nonneg p,hk.ow_le p⟩
 obtain ⟨y,hy⟩:=gfp_go hk 12800000 _ hk.desc_ow (by omega)
 rw [← st_of hy]; exact hy
theorem st_rng {ps:List Pt} {ds:List Dt} (hk:LK ps ds) (p:Int):0≤stF ps ds p∧stF ps ds p≤owD ds p:=⟨((st_gfp hk).1 p).1,((st_gfp hk).1 p).2.1⟩
noncomputable def clP (ps:List Pt) (ds:List Dt):List Int:=if chE ps ds=0 then lsF ps.length (stF ps ds) else []
noncomputable def clA (ps:List Pt) (ds:List Dt):List Int:=if chE ps ds=0 then paF ds (stF ps ds) else []
set_option maxHeartbeats 1000000 in
theorem call13 {ov:Ov} (m:Nat) (ho20:∀ args w,ov 13 args w=none) (ho40:∀ args w,ov 25 args w=none) (ho61:∀ args w,ov 46 args w=none) (ho74:∀ args w,ov 67 args w=none) (ho42:∀ args w,ov 30 args w=none) (ho43:∀ args w,ov 27 args w=none) (ho64:∀ args w,ov 48 args w=none) (h62:HasP ov 47 S47.F) (h17:HasP ov 24 S24.F) (h49:HasP ov 29 S29.F) (h63:HasP ov 50 S50.F)
  (pv dv:Value) (ps:List Pt) (ds:List Dt) (w:AW) (hl:w.lim≤w.next) (hL:LedV w pv dv ps ds) :
  ∃ v w',(run Tryz.prog ov (m + 4)).call 13 [.agg ⟨[pv,dv]⟩] w .none=.ok (.ret v) w' .none∧∃ v1 v2,v=.tuple ⟨[v1,v2,.int .i64 (chE ps ds)]⟩∧RowsV intC w' v1 (clP ps ds)∧RowsV intC w' v2 (clA ps ds)∧Up w w':=by
 refine call_wp text13 (by simp) (ho20 _ _) ?_
 have nn:notJunk (.slice none 0 0)=some (.slice none 0 0):=rfl
 obtain ⟨w1,hw1⟩:∃ w1,w1=(⟨w.heap.put w.next (some (.cells [pv,dv] 40 false)),w.next + 1,w.lim⟩:AW):=⟨_,rfl⟩
 have u1:Up w w1:=hw1 ▸ (Up.refl w).add _
 have n1:w1.next=w.next + 1:=by rw [hw1]
 have m1:w1.lim=w.lim:=by rw [hw1]
 have r17:=S24.call (P:=Tryz.prog) h17 (m:=m + 2) ⟨pv,dv,ps,ds,rfl,hL.up u1,rfl⟩
 by_cases hC:chE ps ds=0
 case neg =>
  have e2:clP ps ds=[]:=by unfold clP; rw [if_neg hC]
  have e3:clA ps ds=[]:=by unfold clA; rw [if_neg hC]
  rw [hw1] at r17
  simp [mc13,cellsOf_agg,r17,hC,nn,tupV,e2,e3]
  rw [hw1] at u1
  exact ⟨_,_,⟨rfl,rfl⟩,.inl ⟨rfl,_,_,rfl⟩,.inl ⟨rfl,_,_,rfl⟩,u1⟩
 case pos =>
  have hO:=ch_lk hC
  have hk:LK ps ds:=hO.up (by decide)
  rw [hC] at r17
  obtain ⟨_,w2,c40,rfl,u2⟩:=call25 (ov:=ov) m ho40 ho61 ho74 h62 pv dv ps ds w1 (by omega) (hL.up u1) hk
  have n2:=u2.next
  have m2:=u2.lim
  have q2:w2.lim≤w2.next:=by omega
  have key:∀ cs:List Value,∀ w4:AW,w4=⟨(w2.heap.put w2.next (some (.cells cs 78 false))).put w2.next (some (.cells (l63 pv dv (owD ds)) 78 false)),w2.next + 1,w2.lim⟩→Up w w4∧w4.heap.get w2.next=some (.cells (pv::dv::arC (owD ds)) 78 false):=fun cs w4 e=>by
   rw [e]
   exact ⟨(u1.trans u2).trans (((Up.refl w2).add _).put (Nat.le_refl _) (Nat.le_refl _)),by simp [l63]⟩
  rw [hw1] at r17 c40
  simp only [l63] at c40
  have s3:=sg63 hL (owD ds)
  simp [mc13,cellsOf_agg,r17,c40,q2,s3,l63_take,l63_drop]
  generalize hw4:(⟨(w2.heap.put w2.next (some (.cells [.slice none 0 0,.slice none 0 0,.int .i64 0,.int .i64 0,.int .i64 0,.int .i64 0,.int .i64 0,.int .i64 0,.int .i64 0,.int .i64 0] 78 false))).put w2.next (some (.cells (pv::dv::arC (owD ds)) 78 false)),w2.next + 1,w2.lim⟩:AW)=w4
  obtain ⟨u4,g4⟩:=key _ w4 hw4.symm
  have n4:w4.next=w2.next + 1:=by rw [← hw4]
  have m4:w4.lim=w2.lim:=by rw [← hw4]
  have r49:=S29.call (P:=Tryz.prog) h49 (m:=m + 2) (w:=w4) ⟨pv,dv,ps,ds,rfl,hL.up u4,hk,rfl⟩
  have q4:w4.lim≤w4.next:=by omega
  obtain ⟨w5,hw5⟩:∃ w5,w5=(⟨(w4.heap.put w4.next (some (.cells (arC fun _=>0) 76 false))).put w4.next (some (.cells (arC (stF ps ds)) 76 false)),w4.next + 1,w4.lim⟩:AW):=⟨_,rfl⟩
  have u5:Up w4 w5:=hw5 ▸ ((Up.refl w4).add _).put (Nat.le_refl _) (Nat.le_refl _)
  have n5:w5.next=w4.next + 1:=by rw [hw5]
  have m5:w5.lim=w4.lim:=by rw [hw5]
  have g5:w5.heap.get w4.next=some (.cells (arC (stF ps ds)) 76 false):=by rw [hw5]; simp
  have g5':=u5.at (b:=w2.next) (by omega)
  rw [g4] at g5'
  have s1:=sm61 (stF ps ds)
  have s2:=sm63 hL (owD ds)
  have e2:clP ps ds=lsF ps.length (stF ps ds):=by unfold clP; rw [if_pos hC]
  have e3:clA ps ds=paF ds (stF ps ds):=by unfold clA; rw [if_pos hC]
  obtain ⟨v1,w6,c43,hr1,u6,j1⟩:=call27 (ov:=ov) (m + 1) ho43 ho64 pv dv (owD ds) (stF ps ds) ps ds w5 (by omega) (hL.up (u4.trans u5)) hO.n1 hO.n8
  have n6:=u6.next
  have m6:=u6.lim
  have g6:=u6.at (b:=w4.next) (by omega)
  rw [g5] at g6
  have g6':=u6.at (b:=w2.next) (by omega)
  rw [g5'] at g6'
  obtain ⟨v2,w7,c42,hr2,u7,j2⟩:=call30 (ov:=ov) (m + 1) ho42 h63 pv dv ps ds (stF ps ds) w6 (by omega) (hL.up ((u4.trans u5).trans u6)) hk (st_rng hk)
  have q0:¬ w2.next=w4.next:=by omega
  rw [hw5] at c43
  simp only [l63] at r49 c42 c43
  simp [r49,al76', -al76,q4,q0,cellsOf_agg,arC_drop,g4,c43,g6,g6',s1,s2,c42,j1,j2,hC,tupV,e2,e3]
  exact ⟨_,_,⟨rfl,rfl⟩,hr1.up u7,hr2,((u4.trans u5).trans u6).trans u7⟩
end Go.Proofs.YtijlaopbnigkaaaGreatDoor.walk
