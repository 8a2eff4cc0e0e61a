/- Part of a proof: see the text with the theorem. -/
import Derived.Test.YtiokkkjahkhbfaaUb
import Derived.Test.YtiokkkjahkhbfaaUe
import Derived.Test.YtiokkkjahkhbfaaSiF
import Derived.KernelRfl
import Derived.Test.YtiokkkjahkhbfaaProg
import Derived.Test.YtiokkkjahkhbfaaUc
set_option linter.all false
namespace Go.Proofs.Ytiokkkjahkhbfaa.walk
open Go Go.Sh
set_option maxRecDepth 100000
def wrapI (n s:Int):Int:=if s < 1 then 0 else (n.tmod s + s).tmod s
theorem wrapI_bd {n s:Int} (h:1≤s):0≤wrapI n s∧wrapI n s < s:=by
 have b1:=Int.lt_tmod_of_pos n (show 0 < s by omega)
 unfold wrapI
 rw [if_neg (by omega)]
 exact ⟨Int.tmod_nonneg _ (by omega),Int.tmod_lt_of_pos _ (by omega)⟩
def S39:PSpec where
 R args _ v:=∃ n s:Int,args=[.int .i64 n,.int .i64 s]∧s≤2 ^ 60∧v=.int .i64 (wrapI n s)
 uniq:=by rintro _ _ _ _ ⟨n,s,rfl,_,rfl⟩ ⟨_,_,h,_,rfl⟩; cases h; rfl
 shut h:=h
theorem run39 {ov:Ov} (ho:∀ args w,ov 39 args w=none) (n s:Int) (hs:s≤2 ^ 60) (w:AW):∃ v w',(run Try.prog ov 2).call 39 [.int .i64 n,.int .i64 s] w .none=.ok (.ret v) w' .none∧v=.int .i64 (wrapI n s):=by
 refine call_wp text39 (by simp) (ho _ _) ?_
 by_cases h1:s < 1
 ·simp [mc39,h1,tupV,wrapI]
 ·have b1:=Int.lt_tmod_of_pos n (show 0 < s by omega)
  have b2:=Int.tmod_lt_of_pos n (show 0 < s by omega)
  have hr:=fun (a:Int) (c:Bool) w=>bin_rem (P:=Try.prog) (w:=w) 3 c .i64 a s (by omega)
  have w1:IntKind.wrap .i64 (n.tmod s + s)=n.tmod s + s:=wrap64_in (by omega) (by omega)
  simp [mc39,h1,tupV,wrapI,hr,w1]
def nthI (L:List Int) (i:Int):Int:=match L[(wrapI i L.length).toNat]? with | some z=>z | none=>0
def S69:PSpec where
 R args w v:=∃ (lv:Value) (L:List Int) (i:Int),args=[lv,.int .i64 i]∧RowsV intC w lv L∧L.length≤2 ^ 60∧v=.int .i64 (nthI L i)
 uniq:=by
  rintro _ _ _ _ ⟨lv,L,i,rfl,h,_,rfl⟩ ⟨_,L',_,e,h',_,rfl⟩
  cases e
  rw [h.uniq (m:=1) intC_length intC_inj h']
 shut h:=h
theorem run69 {ov:Ov} (ho:∀ args w,ov 69 args w=none) (h39:HasP ov 39 S39.F) (v:Value) (L:List Int) (i:Int) (w:AW) (hv:RowsV intC w v L) (hs:L.length≤2 ^ 60):∃ x w',(run Try.prog ov 2).call 69 [v,.int .i64 i] w .none=.ok (.ret x) w' .none∧x=.int .i64 (nthI L i):=by
 refine call_wp text69 (by simp) (ho _ _) ?_
 have hl:=fun w2=>len42V (w':=w2) hv
 have r39:=fun w=>S39.call1 (P:=Try.prog) h39 (w:=w) ⟨i,L.length,rfl,by omega,rfl⟩
 by_cases h0:L.length=0
 ·have:L=[]:=List.eq_nil_of_length_eq_zero h0
  subst this
  simp at hl
  simp [mc69,hl,tupV,nthI]
 ·have hb:=wrapI_bd (n:=i) (s:=L.length) (by omega)
  obtain ⟨k,hk⟩:∃ k:Nat,(k:Int)=wrapI i L.length:=⟨(wrapI i L.length).toNat,by omega⟩
  have hkl:k < L.length:=by omega
  obtain ⟨z,hz⟩:∃ z,L[k]?=some z:=⟨_,List.getElem?_eq_getElem hkl⟩
  obtain ⟨b,off,sq,c,rfl,hr⟩:=hv.at_ k hkl
  have hld:=hr.int hz
  have hia:=fun w=>ia42 w ⟨b,off,sq⟩ L.length c .i64 k hkl
  simp only [Nat.mul_one] at hia
  rw [← hk] at r39
  have hn:nthI L i=z:=by
   unfold nthI
   rw [← hk,Int.toNat_natCast,hz]
  have h0':¬ (L.length:Int)=0:=by omega
  simp [mc69,hl,h0,h0',r39,hia,hld,tupV,hn]
def withI (a b n:Int):Int:=a + wrapI n (b - a + 1)
theorem withI_bd {a b n:Int} (h:a≤b):a≤withI a b n∧withI a b n≤b:=by
 have:=wrapI_bd (n:=n) (s:=b - a + 1) (by omega)
 unfold withI
 omega
def S68:PSpec where
 R args _ v:=∃ a b n:Int,args=[.int .i64 a,.int .i64 b,.int .i64 n]∧(-1000000≤a∧a≤b∧b≤1000000)∧v=.int .i64 (withI a b n)
 uniq:=by rintro _ _ _ _ ⟨a,b,n,rfl,_,rfl⟩ ⟨_,_,_,h,_,rfl⟩; cases h; rfl
 shut h:=h
theorem run68 {ov:Ov} (ho:∀ args w,ov 68 args w=none) (h39:HasP ov 39 S39.F) (a b n:Int) (hb : -1000000≤a∧a≤b∧b≤1000000) (w:AW):∃ v w',(run Try.prog ov 2).call 68 [.int .i64 a,.int .i64 b,.int .i64 n] w .none=.ok (.ret v) w' .none∧v=.int .i64 (withI a b n):=by
 refine call_wp text68 (by simp) (ho _ _) ?_
 have w1:IntKind.wrap .i64 (b - a)=b - a:=wrap64_in (by omega) (by omega)
 have w2:IntKind.wrap .i64 (b - a + 1)=b - a + 1:=wrap64_in (by omega) (by omega)
 have h2:=withI_bd (a:=a) (b:=b) (n:=n) hb.2.1
 have w3:IntKind.wrap .i64 (a + wrapI n (b - a + 1))=withI a b n:=wrap64_in (by unfold withI at h2; omega) (by unfold withI at h2; omega)
 have r39:=fun w=>S39.call1 (P:=Try.prog) h39 (w:=w) ⟨n,b - a + 1,rfl,by omega,rfl⟩
 simp [mc68,w1,w2,r39,w3,tupV]
def S34:PSpec where
 R args w v:=∃ (vv hv fv:Value) (vs:List HVn) (hs:List HHd) (fs:List (List (Int × Int))),args=[.agg ⟨[vv,hv,fv]⟩]∧SeaV w vv hv fv vs hs fs∧v=.bool (seaB vs hs fs)
 uniq:=by
  rintro _ _ _ _ ⟨a,b,c,x,y,z,rfl,h1,rfl⟩ ⟨_,_,_,x',y',z',h,h2,rfl⟩
  cases h
  obtain ⟨rfl,rfl,rfl⟩:=h1.uniq h2
  rfl
 shut:=by rintro _ _ _ ⟨a,b,c,x,y,z,h,h1,e⟩; exact ⟨a,b,c,x,y,z,h,⟨h1.v,h1.h,h1.f⟩,e⟩
theorem run34 {ov:Ov} (ho:∀ args w,ov 34 args w=none) (h14:HasP ov 14 S14.F) (h38:HasP ov 38 S38.F) (vs:List HVn) (hs:List HHd) (fs:List (List (Int × Int))) (vv hv fv:Value) (w:AW) (hl:w.lim=w.next) (hS:SeaV w vv hv fv vs hs fs):∃ x w',(run Try.prog ov 2).call 34 [.agg ⟨[vv,hv,fv]⟩] w .none=.ok (.ret x) w' .none∧x=.bool (seaB vs hs fs):=by
 refine call_wp text34 (by simp) (ho _ _) ?_
 obtain ⟨w1,hw1⟩:∃ w1:AW,w1=⟨w.heap.put w.next (some (.cells [vv,hv,fv] 26 false)),w.next + 1,w.lim⟩:=⟨_,rfl⟩
 have u1:Up w w1:=by rw [hw1]; exact (Up.refl w).add _
 have hS1:=hS.up u1
 obtain ⟨nv,nh,nf⟩:=hS.nj
 have g1:w1.heap.get w.next=some (.cells [vv,hv,fv] 26 false):=by rw [hw1]; simp
 have r14:=S14.call1 (P:=Try.prog) h14 (w:=w1) ⟨vv,hv,fv,vs,hs,fs,rfl,hS1,rfl⟩
 have l22:=fun w2=>len22V (w':=w2) hS.v
 have l23:=fun w2=>len23V (w':=w2) hS.h
 have l24:=fun w2=>len24V (w':=w2) hS.f
 cases hB:seaB vs hs fs with
 | false =>
  have k:chkH vs hs fs=20:=by simp [chkH,hB]
  rw [k] at r14
  rw [hw1] at r14
  simp [mc34,cellsOf_agg,nv,nh,nf,r14]
  refine wp_seqX (wp_blockX (wp_rounds (fun i t w'=>tget t 3=.bool false∧i=0) 20 (by decide) ⟨by simp,rfl⟩ ?_))
  rintro i t w' ⟨t3,rfl⟩
  simp [mc34_l0,t3,tupV]
 | true =>
  obtain ⟨b1,b2,b3,b4,b5,b6,b7,b8⟩:=sea_parts hB
  have k:chkH vs hs fs=0:=by simp [chkH,hB]
  rw [k] at r14
  have r1:=fun w=>S38.call1 (P:=Try.prog) h38 (w:=w) ⟨(vs.length:Nat),1,6,rfl,rfl⟩
  have r2:=fun w=>S38.call1 (P:=Try.prog) h38 (w:=w) ⟨(fs.length:Nat),1,6,rfl,rfl⟩
  have e1:inH 1 (vs.length:Nat) 6=true:=by simp [inH]; omega
  have e2:inH 1 (fs.length:Nat) 6=true:=by simp [inH]; omega
  rw [e1] at r1
  rw [e2] at r2
  have h4:(hs.length:Int)≤4:=by omega
  have h4':hs.length≤4:=b3
  rw [hw1] at r14
  simp [mc34,cellsOf_agg,nv,nh,nf,r14,r1,r2,l22,l23,l24,h4,h4']
  rw [← hw1]
  refine wp_seqX (wp_blockX (wp_rounds (fun i t w'=>w'=w1∧tget t 1=.pointer (some ⟨w.next,0,none⟩)∧tget t 3=.bool true∧tget t 4=.int .i64 (i:Nat)∧i≤fs.length) 20 (by decide) ⟨rfl,by simp,by simp,by simp,Nat.zero_le _⟩ ?_))
  rintro i t w' ⟨rfl,t1,t3,t4,hi⟩
  by_cases hlt:i < fs.length
  ·obtain ⟨r,hr⟩:=lt_get hlt
   have hrl:=row_len (b8 r (List.mem_of_getElem? hr))
   obtain ⟨pp,ra,rc,ir,lr,_,hrow⟩:=Rows2.get un24 sz69 hS1.f rfl hr
   have l69:=fun w2=>len69V (w':=w2) hrow
   rw [hrl] at l69 lr
   have hlt':(i:Int) < (fs.length:Int):=by omega
   have hw1':IntKind.wrap .i64 ((i:Int) + 1)=(i:Int) + 1:=wrap64_in (by omega) (by omega)
   rw [hrl] at hrow
   simp [mc34_l0,t1,t3,t4,g1,nv,nh,nf,l22,l24,hlt,hlt',ir,lr,l69,hw1']
   exact ⟨by omega,hlt⟩
  ·have hi':i=fs.length:=by omega
   subst hi'
   simp [mc34_l0,t1,t3,t4,g1,nv,nh,nf,l24,tupV]
end Go.Proofs.Ytiokkkjahkhbfaa.walk
namespace Go.Sh
open Go
variable {α:Type}
theorem AccR.push3 {P:Program} {st e:TypeId} {sz:Nat} {f:α→List Value} (h0:isList P st=true) (h1:elemA P st=some e) (h2:szOf P e=some sz) (h3:smallT P e=true) (hf:∀ a,(f a).length=sz) (hs:∀ a,singles (f a)=true) (hz:0 < sz)
  {n0:Nat} {w:AW} {v:Value} {acc:List α} (h:AccR f e n0 w v acc) (hl:w.lim≤n0) (hn:n0≤w.next) (hlen:acc.length≤90000) (y:α) :
  ∃ v' w',append1 P ⟨w.heap.put w.next (some (.cells (f y) e false)),w.next + 1,w.lim⟩ [st,st] [v,.slice (some ⟨w.next,0,some 2⟩) 1 1]=.val v' w'∧AccR f e n0 w' v' (acc++[y])∧(∀ x,x < n0→w'.heap.get x=w.heap.get x)∧w.next≤w'.next∧w'.lim=w.lim:=by
 have hsrc:srcCells ⟨w.heap.put w.next (some (.cells (f y) e false)),w.next + 1,w.lim⟩ sz (.slice (some ⟨w.next,0,some 2⟩) 1 1)=some (f y):=src_row (e':=e) (ro:=false) (k:=1) (by simp) (by simp [hf]) (by decide) hz
 rcases h with ⟨rfl,rfl⟩ | ⟨B,rfl,hB,k1,k2,_⟩
 ·refine ⟨_,_,append_nil h0 h1 h2 h3 (m:=1) rfl hsrc (by simp [hf]) (by decide) (by decide),.inr ⟨_,rfl,?_,?_,?_,by simp⟩,fun x hx=>?_,?_,rfl⟩
  ·simp
  ·show n0 < w.next + 1; omega
  ·exact Nat.lt_succ_self _
  ·show ((w.heap.put w.next _).put (w.next + 1) _).get x=_
   rw [get_put,if_neg (by omega),get_put,if_neg (by omega)]
  ·show w.next≤w.next + 1 + 1; omega
 ·have hB':(w.heap.put w.next (some (.cells (f y) e false))).get B=some (.cells (acc.flatMap f) e false):=by rw [get_put,if_neg (by omega)]; exact hB
  refine ⟨_,_,append_full h0 h1 h2 h3 (n:=acc.length) (m:=1) (c:=acc.flatMap f) rfl hsrc (by simp [hf]) (hs y) (by decide) (by omega) hB' (flat_length hf acc) (by show w.lim≤B; omega),.inr ⟨w.next + 1,?_,?_,?_,?_,by simp⟩,fun x hx=>?_,?_,rfl⟩
  ·simp
  ·show (((w.heap.put w.next _).put B none).put (w.next + 1) _).get (w.next + 1)=_
   rw [get_put,if_pos rfl]; simp
  ·omega
  ·exact Nat.lt_succ_self _
  ·show (((w.heap.put w.next _).put B none).put (w.next + 1) _).get x=_
   rw [get_put,if_neg (by omega),get_put,if_neg (by omega),get_put,if_neg (by omega)]
  ·show w.next≤w.next + 1 + 1; omega
theorem AccQ.pushX {α:Type} {P:Program} {st e:TypeId} {sz:Nat} {f:α→List Value} (h0:isList P st=true) (h1:elemA P st=some e) (h2:szOf P e=some sz) (h3:smallT P e=true) (hf:∀ a,(f a).length=sz) (hs:∀ a,singles (f a)=true) (hz:0 < sz)
  {n0:Nat} {w:AW} {v x:Value} {acc:List α} {B:Nat} (h:AccQ f e n0 w v acc B) (hl:w.lim≤n0) (hn:n0 < w.next) (hlen:acc.length≤90000) (y:α) (hx:lenA x=some 1) (hx2:srcCells w sz x=some (f y)) :
  ∃ v' w',append1 P w [st,st] [v,x]=.val v' w'∧AccQ f e n0 w' v' (acc++[y]) w.next∧(∀ x,x < w.next→(acc ≠ []→x ≠ B)→w'.heap.get x=w.heap.get x)∧w'.next=w.next + 1∧w'.lim=w.lim:=by
 rcases h with ⟨rfl,rfl⟩ | ⟨rfl,hB,k1,k2,k3⟩
 ·refine ⟨_,_,append_nil h0 h1 h2 h3 (m:=1) hx hx2 (by simp [hf]) (by decide) (by decide),.inr ⟨rfl,?_,?_,?_,by simp⟩,fun x hx _=>?_,rfl,rfl⟩
  ·simp
  ·exact hn
  ·exact Nat.lt_succ_self _
  ·show (w.heap.put w.next _).get x=_
   rw [get_put,if_neg (by omega)]
 ·refine ⟨_,_,append_full h0 h1 h2 h3 (n:=acc.length) (m:=1) (c:=acc.flatMap f) hx hx2 (by simp [hf]) (hs y) (by decide) (by omega) hB (flat_length hf acc) (by omega),.inr ⟨?_,?_,?_,?_,by simp⟩,fun x hx hne=>?_,rfl,rfl⟩
  ·simp
  ·show ((w.heap.put B none).put w.next _).get w.next=_
   rw [get_put,if_pos rfl]; simp
  ·exact hn
  ·exact Nat.lt_succ_self _
  ·have:=hne k3
   show ((w.heap.put B none).put w.next _).get x=_
   rw [get_put,if_neg (by omega),get_put,if_neg (by omega)]
end Go.Sh
namespace Go.Proofs.Ytiokkkjahkhbfaa.walk
open Go Go.Sh
set_option maxRecDepth 100000
theorem list27:isList Try.prog 27=true:=by kernel_rfl
theorem elem27:elemA Try.prog 27=some 42:=by kernel_rfl
theorem small42:smallT Try.prog 42=true:=by kernel_rfl
def GoodI (w:AW) (B:Nat) (v:Value) (L:List Int):Prop:=(L=[]∧v=.slice none 0 0)∨∃ b,v=.slice (some ⟨b,0,none⟩) L.length L.length∧w.heap.get b=some (.cells (L.flatMap intC) 3 false)∧b ≠ B∧b < w.next
theorem GoodI.rows {w:AW} {B:Nat} {v:Value} {L:List Int} (h:GoodI w B v L):RowsV intC w v L:=by
 rcases h with ⟨rfl,rfl⟩ | ⟨b,rfl,g,_,hb⟩
 ·exact .inl ⟨rfl,_,_,rfl⟩
 ·exact .inr ⟨b,0,none,L.length,rfl,⟨[],[],3,false,by rw [g,List.nil_append,List.append_nil],rfl⟩,hb⟩
theorem GoodI.move {w w':AW} {B B':Nat} {v:Value} {L:List Int} (h:GoodI w B v L) (ho:∀ x,x < w.next→x ≠ B→w'.heap.get x=w.heap.get x) (hn:w.next≤w'.next) (hB:w.next≤B'):GoodI w' B' v L:=by
 rcases h with h | ⟨b,h1,h2,h3,h4⟩
 ·exact .inl h
 ·exact .inr ⟨b,h1,by rw [ho b h4 h3]; exact h2,by omega,by omega⟩
theorem GoodI.same {w w':AW} {B:Nat} {v:Value} {L:List Int} (h:GoodI w B v L) (ho:∀ x,x < w.next→w'.heap.get x=w.heap.get x) (hn:w.next≤w'.next):GoodI w' B v L:=by
 rcases h with h | ⟨b,h1,h2,h3,h4⟩
 ·exact .inl h
 ·exact .inr ⟨b,h1,by rw [ho b h4]; exact h2,h3,by omega⟩
def TrI (w1 w:AW) (f:List (Int × Int)) (i:Nat) (v:Value):Prop:=∃ r:List Int,r.length=i∧AccR intC 3 w1.next w v r∧(∀ (k:Nat) z s,r[k]?=some z→f[k]?=some s→s.1≤z∧z≤s.2)∧(∀ x,x < w1.next→w.heap.get x=w1.heap.get x)∧w1.next≤w.next∧w.lim=w1.lim
section
variable {ov:Ov} {vs:List HVn} {hs:List HHd} {fs:List (List (Int × Int))} {vv hv fv bv:Value} {bits:List Int}
set_option maxHeartbeats 1000000 in
theorem loop35b (K:Nat) (h69:HasP ov 69 S69.F) (h68:HasP ov 68 S68.F) (w1:AW) (hS:SeaV w1 vv hv fv vs hs fs) (hb:RowsV intC w1 bv bits) (hbits:bits.length≤2 ^ 60) (hB:seaB vs hs fs=true) {X:Nat} (gX:w1.heap.get X=some (.cells [vv,hv,fv] 26 false)) (hX:X < w1.next) (hl:w1.lim < w1.next) (m:Nat) (f:List (Int × Int)) (hf:fs[m]?=some f)
  (v5:Value) (t:Tm) (t1:tget t 1=bv) (t2:tget t 2=.pointer (some ⟨X,0,none⟩)) (t5:tget t 5=v5) (t6:tget t 6=.int .i64 (m:Nat)) (t7:tget t 7=.slice none 0 0) (t8:tget t 8=.int .i64 0) (Q:Ex→Tm→AW→Prop)
  (hQ:∀ t w',TrI w1 w' f f.length (tget t 7)→tget t 1=bv→tget t 2=.pointer (some ⟨X,0,none⟩)→tget t 5=v5→tget t 6=.int .i64 (m:Nat)→Q (.exit 2) t w'):wp (exM Try.prog (run Try.prog ov (K + 1)) (.loop mc35_l1) t w1) Q:=by
 obtain ⟨b1,b2,b3,b4,b5,b6,b7,b8⟩:=sea_parts hB
 have hm:m < fs.length:=(List.getElem?_eq_some_iff.1 hf).1
 have hfb:=b8 f (List.mem_of_getElem? hf)
 have hfl:=row_len hfb
 simp only [rowB,Bool.and_eq_true,decide_eq_true_eq,List.all_eq_true] at hfb
 refine wp_rounds (fun i t w'=>TrI w1 w' f i (tget t 7)∧tget t 1=bv∧tget t 2=.pointer (some ⟨X,0,none⟩)∧tget t 5=v5∧tget t 6=.int .i64 (m:Nat)∧tget t 8=.int .i64 (i:Nat)∧i≤f.length) 20 (by decide) ⟨⟨[],rfl,by rw [t7]; exact AccR.nil,fun k z s h=>by simp at h,fun _ _=>rfl,Nat.le_refl _,rfl⟩,t1,t2,t5,t6,by simpa using t8,Nat.zero_le _⟩ ?_
 clear t1 t2 t5 t6 t7 t8 t
 rintro i t w ⟨⟨r,hri,hacc,hrb,hold,hn,hlw⟩,t1,t2,t5,t6,t8,hi⟩
 have u:Up w1 w:=⟨hold,hn,hlw⟩
 obtain ⟨v7,t7⟩:∃ v,tget t 7=v:=⟨_,rfl⟩
 rw [t7] at hacc
 have ok7:=hacc.ok
 have gX':=(u.at hX).trans gX
 obtain ⟨nv,nh,nf⟩:=hS.nj
 have l24:=fun w2=>len24V (w':=w2) hS.f
 have sf:=same_rows2 hS.f
 obtain ⟨pp,ra,rc,ir,lr,hpb,hrow⟩:=Rows2.get un24 sz69 (hS.f.up u) rfl hf
 have l69:=fun w2=>len69V (w':=w2) hrow
 by_cases hlt:i < f.length
 ·obtain ⟨s,hs'⟩:=lt_get hlt
  obtain ⟨ps,is,lds,ls,hps⟩:=getR un69 sz34 hsC_length hrow rfl hs'
  have ls0:=ls 0 _ rfl
  have ls1:=ls 1 _ rfl
  simp only [Nat.add_zero] at ls0
  have hsb:=hfb.2 s (List.mem_of_getElem? hs')
  simp only [spB,inH,Bool.and_eq_true,decide_eq_true_eq] at hsb
  have hw1:IntKind.wrap .i64 ((i:Int) + 1)=(i:Int) + 1:=wrap64_in (by omega) (by omega)
  have hw2:IntKind.wrap .i64 (7 * (m:Int))=7 * (m:Int):=wrap64_in (by omega) (by omega)
  have hw3:IntKind.wrap .i64 (7 * (m:Int) + (i:Int))=7 * (m:Int) + (i:Int):=wrap64_in (by omega) (by omega)
  have r69:=S69.call (P:=Try.prog) h69 (m:=K) (w:=w) ⟨bv,bits,7 * (m:Int) + (i:Int),rfl,hb.up u,hbits,rfl⟩
  have r68:=S68.call (P:=Try.prog) h68 (m:=K) (w:=w) ⟨s.1,s.2,nthI bits (7 * (m:Int) + (i:Int)),rfl,by omega,rfl⟩
  obtain ⟨x,hx⟩:∃ x,x=withI s.1 s.2 (nthI bits (7 * (m:Int) + (i:Int))):=⟨_,rfl⟩
  have hxb:=withI_bd (a:=s.1) (b:=s.2) (n:=nthI bits (7 * (m:Int) + (i:Int))) hsb.1.2
  rw [← hx] at r68 hxb
  obtain ⟨v',w4,hap,hacc',hkp,hn4,hl4⟩:=AccR.push3 (P:=Try.prog) (st:=42) (sz:=1) list42 elem42 sz3 small3 intC_length (fun _=>by simp [intC]) (by decide) hacc (by omega) hn (by omega) x
  simp only [intC] at hap
  obtain ⟨s1,s2⟩:=s
  simp only [hsC] at ls0 ls1
  simp only at r68 hxb
  have hlt':(i:Int) < (f.length:Int):=by omega
  simp [mc35_l1,t1,t2,t5,t6,t7,t8,ok7,gX',nv,nh,nf,l24,ir,lr,l69,hlt,hlt',is,ls0,ls1,hw1,hw2,hw3,sf,r69,r68,hap]
  refine ⟨by omega,⟨r++[x],by simp [hri],hacc',fun k z s hk hs2=>?_,fun y hy=>by rw [hkp y (by omega)]; exact hold y hy,by omega,by omega⟩,hlt⟩
  by_cases hkr:k < r.length
  ·rw [List.getElem?_append_left hkr] at hk
   exact hrb k z s hk hs2
  ·have hk2:=(List.getElem?_eq_some_iff.1 hk).1
   simp at hk2
   have:k=i:=by omega
   subst this
   rw [List.getElem?_append_right (by omega),hri] at hk
   simp at hk
   subst hk
   rw [hs'] at hs2
   cases hs2
   exact hxb
 ·have hi':i=f.length:=by omega
  subst hi'
  simp [mc35_l1,t1,t2,t5,t6,t8,gX',nv,nh,nf,l24,ir,lr,l69]
  exact hQ _ _ (by simp [t7]; exact ⟨r,hri,hacc,hrb,hold,hn,hlw⟩) (by simp [t1]) (by simp [t2]) (by simp [t5]) (by simp [t6])
abbrev Slr:Type:=(Option Addr × Nat × Nat) × List Int
def slV1 (y:Slr):Value:=.slice y.1.1 y.1.2.1 y.1.2.2
def slrC (y:Slr):List Value:=[slV1 y]
theorem slrC_length (y:Slr):(slrC y).length=1:=rfl
theorem flat_slr:∀ l:List Slr,l.flatMap slrC=(l.map fun y=>(slV1 y,y.2)).flatMap rwC
 | []=>rfl
 | y::l=>by rw [List.flatMap_cons,List.map_cons,List.flatMap_cons,flat_slr l]; rfl
theorem rows_slr {w:AW} {v:Value} {l:List Slr} (h:RowsV slrC w v l):RowsV rwC w v (l.map fun y=>(slV1 y,y.2)):=by
 rcases h with ⟨rfl,a,c,rfl⟩ | ⟨b,off,sq,c,hv,⟨pre,rest,e,ro,h1,h2⟩,h3⟩
 ·exact .inl ⟨rfl,a,c,rfl⟩
 ·exact .inr ⟨b,off,sq,c,by rw [hv,List.length_map],⟨pre,rest,e,ro,by rw [h1,flat_slr],h2⟩,h3⟩
def TrO (w0 w:AW) (vs:List HVn) (fs:List (List (Int × Int))) (m:Nat) (v:Value):Prop:=∃ (ps:List Slr) (B:Nat),ps.length=m∧AccQ slrC 42 w0.next w v ps B∧(∀ p ∈ ps,GoodI w B (slV1 p) p.2)∧(∀ (k:Nat) p f,ps[k]?=some p→fs[k]?=some f→p.2.length=vs.length∧∀ (j:Nat) z s,p.2[j]?=some z→f[j]?=some s→s.1≤z∧z≤s.2)∧Up w0 w∧w0.next < w.next∧(ps=[]→B < w.next)
set_option maxHeartbeats 1000000 in
theorem loop35a (K:Nat) (h69:HasP ov 69 S69.F) (h68:HasP ov 68 S68.F) (w0 w:AW) (hS:SeaV w0 vv hv fv vs hs fs) (hb:RowsV intC w0 bv bits) (hbits:bits.length≤2 ^ 60) (hB:seaB vs hs fs=true) {X:Nat} (gX:w.heap.get X=some (.cells [vv,hv,fv] 26 false)) (hX0:X=w0.next) (hl:w0.lim≤w0.next) (hI:TrO w0 w vs fs 0 (.slice none 0 0))
  (t:Tm) (t1:tget t 1=bv) (t2:tget t 2=.pointer (some ⟨X,0,none⟩)) (t5:tget t 5=.slice none 0 0) (t6:tget t 6=.int .i64 0) (Q:Ex→Tm→AW→Prop)
  (hQ:∀ t w',TrO w0 w' vs fs fs.length (tget t 5)→Q (.exit 0) t w'):wp (exM Try.prog (run Try.prog ov (K + 1)) (.loop mc35_l0) t w) Q:=by
 obtain ⟨b1,b2,b3,b4,b5,b6,b7,b8⟩:=sea_parts hB
 refine wp_rounds (fun i t w'=>TrO w0 w' vs fs i (tget t 5)∧w'.heap.get X=some (.cells [vv,hv,fv] 26 false)∧tget t 1=bv∧tget t 2=.pointer (some ⟨X,0,none⟩)∧tget t 6=.int .i64 (i:Nat)∧i≤fs.length) 20 (by decide) ⟨by rw [t5]; exact hI,gX,t1,t2,by simpa using t6,Nat.zero_le _⟩ ?_
 clear t1 t2 t5 t6 t gX hI w
 rintro i t w ⟨⟨ps,B,hpl,hacc,hgood,hpr,u,hnx,hBn⟩,gX,t1,t2,t6,hi⟩
 obtain ⟨v5,t5⟩:∃ v,tget t 5=v:=⟨_,rfl⟩
 rw [t5] at hacc
 have ok5:=hacc.ok
 obtain ⟨nv,nh,nf⟩:=hS.nj
 have l24:=fun w2=>len24V (w':=w2) hS.f
 have hXn:X < w.next:=by omega
 have hlw:=u.lim
 have hnw:=u.next
 by_cases hlt:i < fs.length
 ·obtain ⟨f,hf⟩:=lt_get hlt
  have hfl:=row_len (b8 f (List.mem_of_getElem? hf))
  have hw1:IntKind.wrap .i64 ((i:Int) + 1)=(i:Int) + 1:=wrap64_in (by omega) (by omega)
  have hlt':(i:Int) < (fs.length:Int):=by omega
  simp [mc35_l0,t1,t2,t5,t6,gX,nv,nh,nf,l24,hlt,hlt']
  refine wp_seqX (wp_blockX (wp_seqX (wp_blockX ?_)))
  refine loop35b (ov:=ov) (vs:=vs) (hs:=hs) (fs:=fs) (vv:=vv) (hv:=hv) (fv:=fv) (bv:=bv) (bits:=bits) K h69 h68 w (hS.up u) (hb.up u) hbits hB gX hXn (by omega) i f hf v5 _ (by simp [t1]) (by simp [t2]) (by simp [t5]) (by simp [t6]) (by simp) (by simp) _ ?_
  rintro t w2 ⟨r,hri,hacr,hrb,hold,hn2,hl2⟩ t1 t2 t5 t6
  obtain ⟨v7,t7⟩:∃ v,tget t 7=v:=⟨_,rfl⟩
  rw [t7] at hacr
  have ok7:=hacr.ok
  obtain ⟨a7,c7,e7⟩:=hacr.rows.len
  obtain ⟨w3,hw3⟩:∃ w3:AW,w3=⟨w2.heap.put w2.next (some (.cells [v7] 42 false)),w2.next + 1,w2.lim⟩:=⟨_,rfl⟩
  have hb27:buildSliceA Try.prog w2 27 1 [(0,v7)]=.val (.slice (some ⟨w2.next,0,some 2⟩) 1 1) w3:=by
   rw [hw3,e7]
   exact bd27_0_n1 w2 a7 r.length c7
  have g3:w3.heap.get w2.next=some (.cells [v7] 42 false):=by rw [hw3]; simp
  have n3:w3.next=w2.next + 1:=by rw [hw3]
  have l3:w3.lim=w2.lim:=by rw [hw3]
  have o3:∀ x,x < w2.next→w3.heap.get x=w2.heap.get x:=fun x hx=>by rw [hw3]; show (w2.heap.put _ _).get x=_; rw [get_put,if_neg (by omega)]
  have hacc3:AccQ slrC 42 w0.next w3 v5 ps B:=hacc.keep (fun _ _ hBw=>by rw [o3 B (by omega),hold B hBw]) (by omega)
  obtain ⟨v',w4,hap,hacc',hkp,hn4,hl4⟩:=AccQ.pushX (P:=Try.prog) (st:=27) (e:=42) (sz:=1) list27 elem27 sz42 small42 (f:=slrC) slrC_length (fun p=>rfl) (by decide) hacc3 (by omega) (by omega) (by omega) ((a7,r.length,c7),r) (x:=.slice (some ⟨w2.next,0,some 2⟩) 1 1) rfl
   (by show (bif Nat.beq (1 * 1) 0 then some [] else rd w3 w2.next 0 (1 * 1))=_; rw [rd_eq,g3,e7]; rfl)
  simp [t1,t2,t5,t6,t7,ok5,ok7,hb27,hap,hw1]
  have hmv:∀ x,x < w.next→(ps ≠ []→x ≠ B)→w4.heap.get x=w.heap.get x:=fun x hx hxB=>by rw [hkp x (by omega) hxB,o3 x (by omega),hold x hx]
  refine ⟨by omega,⟨ps++[((a7,r.length,c7),r)],w3.next,by simp [hpl],hacc',fun p hp=>?_,fun k p f' hk hf'=>?_,⟨fun x hx=>?_,by omega,by omega⟩,by omega,fun h=>by simp at h⟩,?_,by omega⟩
  ·rcases List.mem_append.1 hp with hp | hp
   ·have hne:ps ≠ []:=fun e=>by rw [e] at hp; simp at hp
    exact (hgood p hp).move (fun x hx hxB=>hmv x hx fun _=>hxB) (by omega) (by omega)
   ·rw [List.mem_singleton] at hp
    subst hp
    show GoodI w4 w3.next (.slice a7 r.length c7) r
    rw [← e7]
    have h1:GoodI w2 w3.next v7 r:=by
     rcases hacr with h | ⟨b,h1,h2,h3,h4,_⟩
     ·exact .inl h
     ·exact .inr ⟨b,h1,h2,by omega,h4⟩
    rcases h1 with h | ⟨b,e1,e2,e3,e4⟩
    ·exact .inl h
    ·refine .inr ⟨b,e1,?_,e3,by omega⟩
     rw [hkp b (by omega) (fun hne=>by
      rcases hacr with ⟨_,h⟩ | ⟨b',h1,_,h3,_,_⟩
      ·rw [h] at e1; cases e1
      ·rw [h1] at e1; cases e1; have:=(hacc.lt hne).2; omega),o3 b e4]
     exact e2
  ·by_cases hkp2:k < ps.length
   ·rw [List.getElem?_append_left hkp2] at hk
    exact hpr k p f' hk hf'
   ·have hk2:=(List.getElem?_eq_some_iff.1 hk).1
    simp at hk2
    have:k=i:=by omega
    subst this
    rw [List.getElem?_append_right (by omega),hpl] at hk
    simp at hk
    subst hk
    rw [hf] at hf'
    cases hf'
    exact ⟨by rw [hri]; exact hfl,hrb⟩
  ·rw [hmv x (by omega) (fun hne=>by have:=(hacc.lt hne).1; omega)]
   exact u.at hx
  ·rw [hmv X hXn (fun hne=>by have:=(hacc.lt hne).1; omega)]
   exact gX
 ·have hi':i=fs.length:=by omega
  subst hi'
  simp [mc35_l0,t2,t6,gX,nv,nh,nf,l24]
  exact hQ _ _ (by simp [t5]; exact ⟨ps,B,hpl,hacc,hgood,hpr,u,hnx,hBn⟩)
theorem call35 (K:Nat) (ho:∀ args w,ov 35 args w=none) (h69:HasP ov 69 S69.F) (h68:HasP ov 68 S68.F) (w:AW) (hl:w.lim≤w.next) (hS:SeaV w vv hv fv vs hs fs) (hb:RowsV intC w bv bits) (hbits:bits.length≤2 ^ 60) (hB:seaB vs hs fs=true) :
  ∃ v w',(run Try.prog ov (K + 2)).call 35 [.agg ⟨[vv,hv,fv]⟩,bv] w .none=.ok (.ret v) w' .none∧∃ tr,Rows2 intC w' v tr∧truB vs.length tr fs=true∧Up w w':=by
 refine call_wp text35 (by simp) (ho _ _) ?_
 obtain ⟨nv,nh,nf⟩:=hS.nj
 have bj:notJunk bv=some bv:=by obtain ⟨x,y,rfl⟩:=hb.len; rfl
 obtain ⟨w1,hw1⟩:∃ w1:AW,w1=⟨w.heap.put w.next (some (.cells [vv,hv,fv] 26 false)),w.next + 1,w.lim⟩:=⟨_,rfl⟩
 have u1:Up w w1:=by rw [hw1]; exact (Up.refl w).add _
 have gX:w1.heap.get w.next=some (.cells [vv,hv,fv] 26 false):=by rw [hw1]; simp
 simp [mc35,cellsOf_agg,nv,nh,nf,bj]
 rw [← hw1]
 refine wp_seqX (wp_blockX (loop35a (ov:=ov) (vs:=vs) (hs:=hs) (fs:=fs) (bits:=bits) (bv:=bv) K h69 h68 w w1 hS hb hbits hB gX rfl hl ⟨[],0,rfl,.inl ⟨rfl,rfl⟩,fun p hp=>by simp at hp,fun k p f hk=>by simp at hk,u1,by rw [hw1]; exact Nat.lt_succ_self _,fun _=>by rw [hw1]; exact Nat.succ_pos _⟩ _ (by simp) (by simp) (by simp) (by simp) _ ?_))
 rintro t w2 ⟨ps,B,hpl,hacc,hgood,hpr,u,hnx,_⟩
 obtain ⟨v5,t5⟩:∃ v,tget t 5=v:=⟨_,rfl⟩
 rw [t5] at hacc
 have ok5:=hacc.ok
 simp [t5,ok5,tupV]
 refine ⟨ps.map (·.2),⟨ps.map fun y=>(slV1 y,y.2),by rw [List.map_map]; rfl,rows_slr hacc.rows,fun p hp=>by obtain ⟨y,hy,rfl⟩:=List.mem_map.1 hp; exact (hgood y hy).rows⟩,?_,u⟩
 obtain ⟨b1,b2,b3,b4,b5,b6,b7,b8⟩:=sea_parts hB
 simp only [truB,Bool.and_eq_true,decide_eq_true_eq,List.all_eq_true]
 refine ⟨by rw [List.length_map]; exact hpl,fun q hq=>?_⟩
 obtain ⟨k,hk⟩:=List.getElem?_of_mem hq
 rw [List.getElem?_zip_eq_some] at hk
 obtain ⟨hk1,hk2⟩:=hk
 rw [List.getElem?_map] at hk1
 cases hp:ps[k]? with
 | none=>rw [hp] at hk1; cases hk1
 | some p =>
  rw [hp] at hk1
  simp only [Option.map_some,Option.some.injEq] at hk1
  obtain ⟨e1,e2⟩:=hpr k p _ hp hk2
  rw [hk1] at e1 e2
  simp only [rowT,Bool.and_eq_true,decide_eq_true_eq,List.all_eq_true]
  refine ⟨e1,fun z hz=>?_⟩
  obtain ⟨j,hj⟩:=List.getElem?_of_mem hz
  rw [List.getElem?_zip_eq_some] at hj
  have:=e2 j z.1 z.2 hj.1 hj.2
  simp [inP,inH,this]
end
end Go.Proofs.Ytiokkkjahkhbfaa.walk
namespace Go.Sh
open Go
def podL (V:Nat) (p:List HJb):List Int:=arrL V fun k=>podF p (k:Int)
def hadG (V M:Nat) (p:List HJb):List (List Int):=(List.range M).map fun m:Nat=>arrL V fun k=>hadF p (m:Int) (k:Int)
def worS (p:List HJb):Int:=(p.map (·.ma)).sum
def inMa (j:HJb):Bool:=decide (1≤j.ma) && decide (j.ma≤1000)
def smJ (vs:List HVn) (hs:List HHd) (M:Nat) (p:List HJb) (j:HJb):Bool:=jobB vs.length hs.length M j && (inMa j && match hs[j.ha.toNat]?,vs[j.vi.toNat]? with
 | some h,some v=>canH h v j.ho j.vi && decide (¬ (h.ra < hrS (p++[j]) j.mo j.ha j.ho∨h.da < dayS (p++[j]) j.mo j.ha))
 | _,_=>false)
def smG (vs:List HVn) (hs:List HHd) (M:Nat):List HJb→List HJb→Bool
 | _,[]=>true
 | p,j::l=>smJ vs hs M p j && smG vs hs M (p++[j]) l
theorem podL_length (V:Nat) (p:List HJb):(podL V p).length=V:=arrL_length _ _
theorem hadG_length (V M:Nat) (p:List HJb):(hadG V M p).length=M:=by simp [hadG]
theorem podL_at {V k:Nat} (p:List HJb) (h:k < V):(podL V p)[k]?=some (podF p k):=arrL_at h
theorem hadG_at {V M m:Nat} (p:List HJb) (h:m < M):(hadG V M p)[m]?=some (arrL V fun k=>hadF p (m:Int) (k:Int)):=by
 unfold hadG
 rw [List.getElem?_map,List.getElem?_range h]; rfl
theorem podL_push {V:Nat} (p:List HJb) (j:HJb) {v:Nat} (hv:v < V) (e2:j.vi=v):(podL V p).set v (podF p v + j.ma)=podL V (p++[j]):=by
 refine arrL_set fun k hk=>?_
 rw [podF_push]
 by_cases e:k=v
 ·rw [if_pos e,if_pos (by omega),e]
 ·rw [if_neg e,if_neg (by omega),Int.add_zero]
theorem hadG_push {V M:Nat} (p:List HJb) (j:HJb) {m v:Nat} (hm:m < M) (hv:v < V) (e1:j.mo=m) (e2:j.vi=v):(hadG V M p).set m ((arrL V fun k=>hadF p (m:Int) (k:Int)).set v (hadF p m v + j.ma))=hadG V M (p++[j]):=by
 have key:((arrL V fun k=>hadF p (m:Int) (k:Int)).set v (hadF p m v + j.ma))=arrL V fun k=>hadF (p++[j]) (m:Int) (k:Int):=arrL_set fun k hk=>by
  rw [hadF_push]
  by_cases e:k=v
  ·rw [if_pos e,if_pos (by omega),e]
  ·rw [if_neg e,if_neg (by omega),Int.add_zero]
 rw [key]
 unfold hadG
 apply List.ext_getElem?
 intro i
 rw [List.getElem?_set,List.length_map,List.length_range]
 by_cases hi:i < M
 ·rw [List.getElem?_map,List.getElem?_map,List.getElem?_range hi]
  simp only [Option.map_some]
  by_cases e:m=i
  ·subst e; rw [if_pos rfl,if_pos hm]
  ·rw [if_neg e]
   congr 2
   funext k
   rw [hadF_push,if_neg (by omega),Int.add_zero]
 ·rw [if_neg (by omega),List.getElem?_eq_none (by simp; omega),List.getElem?_eq_none (by simp; omega)]
theorem podL_nil (V:Nat):podL V []=List.replicate V 0:=arrL_zero fun k _=>by simp [podF]
theorem hadG_nil (V M:Nat):hadG V M []=List.replicate M (List.replicate V 0):=by
 unfold hadG
 apply List.ext_getElem?
 intro i
 by_cases hi:i < M
 ·rw [List.getElem?_map,List.getElem?_range hi,List.getElem?_replicate,if_pos hi]
  simp only [Option.map_some]
  rw [arrL_zero fun k _=>by simp [hadF]]
 ·rw [List.getElem?_eq_none (by simp; omega),List.getElem?_eq_none (by simp; omega)]
theorem smJ_parts {vs:List HVn} {hs:List HHd} {M:Nat} {p:List HJb} {j:HJb} (h:smJ vs hs M p j=true):jobB vs.length hs.length M j=true∧(1≤j.ma∧j.ma≤1000)∧∃ x v,hs[j.ha.toNat]?=some x∧vs[j.vi.toNat]?=some v∧canH x v j.ho j.vi=true∧hrS (p++[j]) j.mo j.ha j.ho≤x.ra∧dayS (p++[j]) j.mo j.ha≤x.da:=by
 simp only [smJ,inMa,Bool.and_eq_true,decide_eq_true_eq] at h
 obtain ⟨h1,h2,h3⟩:=h
 refine ⟨h1,h2,?_⟩
 cases hx:hs[j.ha.toNat]? with
 | none=>rw [hx] at h3; simp at h3
 | some x =>
  cases hv:vs[j.vi.toNat]? with
  | none=>rw [hx,hv] at h3; simp at h3
  | some v =>
   rw [hx,hv] at h3
   simp only [Bool.and_eq_true,decide_eq_true_eq] at h3
   exact ⟨x,v,rfl,rfl,h3.1,by omega,by omega⟩
theorem UseOk.pushS {vs:List HVn} {hs:List HHd} {M:Nat} {p:List HJb} {j:HJb} (h:UseOk hs p) (hj:smJ vs hs M p j=true):UseOk hs (p++[j]):=by
 obtain ⟨h2,h1,x,v,hx,hv,_,hr,hd⟩:=smJ_parts hj
 simp only [jobB,decide_eq_true_eq] at h2
 refine ⟨fun k hk=>?_,fun m i y hy=>?_,fun m i o y hy=>?_⟩
 ·rcases List.mem_append.1 hk with hk | hk
  ·exact h.pos k hk
  ·rw [List.mem_singleton] at hk; subst hk; omega
 ·by_cases e:j.mo=m∧j.ha=i
  ·have e2:j.ha.toNat=i:=by omega
   rw [e2,hy] at hx
   cases hx
   rw [← e.1,← e.2]; exact hd
  ·rw [dayS_push,if_neg e]
   have:=h.day m i y hy
   omega
 ·by_cases e:j.mo=m∧j.ha=i∧j.ho=o
  ·have e2:j.ha.toNat=i:=by omega
   rw [e2,hy] at hx
   cases hx
   rw [← e.1,← e.2.1,← e.2.2]; exact hr
  ·rw [hrS_push,if_neg e]
   have:=h.hr m i o y hy
   omega
theorem plan_sm {vs:List HVn} {hs:List HHd} {M:Nat} (hb:∀ x ∈ hs,x.da≤1000):∀ {l p:List HJb},UseOk hs p→planG vs hs M p l=true→smG vs hs M p l=true
 | [],_,_,_=>rfl
 | j::l,p,hU,h=>by
  simp only [planG,Bool.and_eq_true] at h
  obtain ⟨_,h2,x,v,hx,hv,hc,h1,hd,hr⟩:=step_parts h.1
  have:=hb x (List.mem_of_getElem? hx)
  have:=hU.dayPos j.mo j.ha
  simp only [smG,Bool.and_eq_true]
  refine ⟨?_,plan_sm hb (hU.push h.1) h.2⟩
  unfold smJ
  rw [h2,hx,hv]
  simp only [inMa,Bool.true_and,Bool.and_eq_true,decide_eq_true_eq,hc]
  rw [hrS_push,if_pos ⟨rfl,rfl,rfl⟩,dayS_push,if_pos ⟨rfl,rfl⟩]
  omega
theorem worS_push (p:List HJb) (j:HJb):worS (p++[j])=worS p + j.ma:=by simp [worS]
end Go.Sh
namespace Go.Proofs.Ytiokkkjahkhbfaa.walk
open Go Go.Sh
set_option maxRecDepth 100000
theorem al135 (w:AW):allocA Try.prog w 135=.val (.pointer (some ⟨w.next,0,none⟩)) ⟨w.heap.put w.next (some (.cells [.bool false,.bool false,.bool false,.bool false,.bool false,.bool false,.bool false,.bool false,.bool false,.bool false,.bool false,.bool false,.bool false,.bool false,.bool false,.bool false,.bool false,.bool false,.bool false,.bool false,.bool false,.bool false,.bool false,.bool false,.bool false,.bool false,.bool false,.bool false,.bool false,.bool false,.bool false,.bool false,.bool false,.bool false,.bool false,.bool false,.bool false,.bool false,.bool false,.bool false,.bool false,.bool false,.bool false,.bool false,.bool false,.bool false,.bool false,.bool false,.bool false,.bool false,.bool false,.bool false,.bool false,.bool false,.bool false,.bool false,.bool false,.bool false,.bool false,.bool false,.bool false,.bool false,.bool false,.bool false,.bool false,.bool false,.bool false,.bool false,.bool false,.bool false,.bool false,.bool false,.bool false,.bool false,.bool false,.bool false,.bool false,.bool false,.bool false,.bool false,.bool false,.bool false,.bool false,.bool false,.bool false,.bool false,.bool false,.bool false,.bool false,.bool false,.bool false,.bool false,.bool false,.bool false,.bool false,.bool false,.bool false,.bool false,.bool false,.bool false,.bool false,.bool false,.bool false,.bool false,.bool false,.bool false,.bool false,.bool false,.bool false,.bool false,.bool false,.bool false,.bool false,.bool false,.bool false,.bool false,.bool false,.bool false,.bool false,.bool false,.bool false,.bool false,.bool false,.bool false,.bool false,.bool false,.bool false,.bool false,.bool false,.bool false,.bool false,.bool false,.bool false,.bool false,.bool false,.bool false,.bool false,.bool false,.bool false,.bool false,.bool false,.bool false,.bool false,.bool false,.bool false,.bool false,.bool false,.bool false,.bool false,.bool false,.bool false,.bool false,.bool false,.bool false,.bool false,.bool false,.bool false,.bool false,.bool false,.bool false,.bool false,.bool false,.bool false,.bool false,.bool false,.bool false,.bool false,.bool false,.bool false,.bool false,.bool false,.bool false,.bool false,.bool false,.bool false,.bool false,.bool false,.bool false,.bool false,.bool false,.bool false,.bool false,.bool false,.bool false,.bool false,.bool false,.bool false,.bool false,.bool false,.bool false,.bool false,.bool false,.bool false,.bool false,.bool false,.bool false,.bool false,.bool false,.bool false,.bool false,.bool false,.bool false,.bool false,.bool false,.bool false,.bool false,.bool false,.bool false,.bool false,.bool false,.bool false,.bool false,.bool false,.bool false,.bool false,.bool false,.bool false,.bool false,.bool false,.bool false,.bool false,.bool false,.bool false,.bool false,.bool false,.bool false,.bool false,.bool false,.bool false,.bool false,.bool false,.bool false,.bool false,.bool false,.bool false,.bool false,.bool false,.bool false,.bool false,.bool false,.bool false,.bool false,.bool false,.bool false,.bool false,.bool false,.bool false,.bool false,.bool false,.bool false,.bool false,.bool false,.bool false,.bool false,.bool false,.bool false,.bool false,.bool false,.bool false,.bool false,.bool false,.bool false,.bool false,.bool false,.bool false,.bool false,.bool false,.bool false,.bool false,.bool false,.bool false,.bool false,.bool false,.bool false,.bool false,.bool false,.bool false,.bool false,.bool false,.bool false,.bool false,.bool false,.bool false,.bool false,.bool false,.bool false,.bool false,.bool false,.bool false,.bool false,.bool false,.bool false,.bool false,.bool false,.bool false,.bool false,.bool false,.bool false,.bool false,.bool false,.bool false,.bool false,.bool false,.bool false,.bool false,.bool false,.bool false,.bool false,.bool false,.bool false,.bool false,.bool false,.bool false,.bool false,.bool false,.bool false,.bool false,.bool false,.bool false,.bool false,.bool false,.bool false,.bool false,.bool false,.bool false,.bool false,.bool false,.bool false,.bool false,.bool false,.bool false,.bool false,.bool false,.bool false,.bool false,.bool false,.bool false,.bool false,.bool false,.bool false,.bool false,.bool false,.bool false,.bool false,.bool false,.bool false,.bool false,.bool false,.bool false,.bool false,.bool false,.bool false,.bool false,.bool false,.bool false,.bool false] 135 false)),w.next + 1,w.lim⟩:=alloc_eq (z:=.agg ⟨[.bool false,.bool false,.bool false,.bool false,.bool false,.bool false,.bool false,.bool false,.bool false,.bool false,.bool false,.bool false,.bool false,.bool false,.bool false,.bool false,.bool false,.bool false,.bool false,.bool false,.bool false,.bool false,.bool false,.bool false,.bool false,.bool false,.bool false,.bool false,.bool false,.bool false,.bool false,.bool false,.bool false,.bool false,.bool false,.bool false,.bool false,.bool false,.bool false,.bool false,.bool false,.bool false,.bool false,.bool false,.bool false,.bool false,.bool false,.bool false,.bool false,.bool false,.bool false,.bool false,.bool false,.bool false,.bool false,.bool false,.bool false,.bool false,.bool false,.bool false,.bool false,.bool false,.bool false,.bool false,.bool false,.bool false,.bool false,.bool false,.bool false,.bool false,.bool false,.bool false,.bool false,.bool false,.bool false,.bool false,.bool false,.bool false,.bool false,.bool false,.bool false,.bool false,.bool false,.bool false,.bool false,.bool false,.bool false,.bool false,.bool false,.bool false,.bool false,.bool false,.bool false,.bool false,.bool false,.bool false,.bool false,.bool false,.bool false,.bool false,.bool false,.bool false,.bool false,.bool false,.bool false,.bool false,.bool false,.bool false,.bool false,.bool false,.bool false,.bool false,.bool false,.bool false,.bool false,.bool false,.bool false,.bool false,.bool false,.bool false,.bool false,.bool false,.bool false,.bool false,.bool false,.bool false,.bool false,.bool false,.bool false,.bool false,.bool false,.bool false,.bool false,.bool false,.bool false,.bool false,.bool false,.bool false,.bool false,.bool false,.bool false,.bool false,.bool false,.bool false,.bool false,.bool false,.bool false,.bool false,.bool false,.bool false,.bool false,.bool false,.bool false,.bool false,.bool false,.bool false,.bool false,.bool false,.bool false,.bool false,.bool false,.bool false,.bool false,.bool false,.bool false,.bool false,.bool false,.bool false,.bool false,.bool false,.bool false,.bool false,.bool false,.bool false,.bool false,.bool false,.bool false,.bool false,.bool false,.bool false,.bool false,.bool false,.bool false,.bool false,.bool false,.bool false,.bool false,.bool false,.bool false,.bool false,.bool false,.bool false,.bool false,.bool false,.bool false,.bool false,.bool false,.bool false,.bool false,.bool false,.bool false,.bool false,.bool false,.bool false,.bool false,.bool false,.bool false,.bool false,.bool false,.bool false,.bool false,.bool false,.bool false,.bool false,.bool false,.bool false,.bool false,.bool false,.bool false,.bool false,.bool false,.bool false,.bool false,.bool false,.bool false,.bool false,.bool false,.bool false,.bool false,.bool false,.bool false,.bool false,.bool false,.bool false,.bool false,.bool false,.bool false,.bool false,.bool false,.bool false,.bool false,.bool false,.bool false,.bool false,.bool false,.bool false,.bool false,.bool false,.bool false,.bool false,.bool false,.bool false,.bool false,.bool false,.bool false,.bool false,.bool false,.bool false,.bool false,.bool false,.bool false,.bool false,.bool false,.bool false,.bool false,.bool false,.bool false,.bool false,.bool false,.bool false,.bool false,.bool false,.bool false,.bool false,.bool false,.bool false,.bool false,.bool false,.bool false,.bool false,.bool false,.bool false,.bool false,.bool false,.bool false,.bool false,.bool false,.bool false,.bool false,.bool false,.bool false,.bool false,.bool false,.bool false,.bool false,.bool false,.bool false,.bool false,.bool false,.bool false,.bool false,.bool false,.bool false,.bool false,.bool false,.bool false,.bool false,.bool false,.bool false,.bool false,.bool false,.bool false,.bool false,.bool false,.bool false,.bool false,.bool false,.bool false,.bool false,.bool false,.bool false,.bool false,.bool false,.bool false,.bool false,.bool false,.bool false,.bool false,.bool false,.bool false,.bool false,.bool false,.bool false,.bool false,.bool false,.bool false,.bool false,.bool false,.bool false,.bool false,.bool false,.bool false,.bool false,.bool false,.bool false,.bool false,.bool false,.bool false,.bool false,.bool false,.bool false,.bool false,.bool false,.bool false,.bool false,.bool false]⟩) (by kernel_rfl)
theorem bd135_0 (w:AW) (x0:Bool):buildA Try.prog w 135 [(0,.bool x0)]=.val (.agg ⟨[.bool x0,.bool false,.bool false,.bool false,.bool false,.bool false,.bool false,.bool false,.bool false,.bool false,.bool false,.bool false,.bool false,.bool false,.bool false,.bool false,.bool false,.bool false,.bool false,.bool false,.bool false,.bool false,.bool false,.bool false,.bool false,.bool false,.bool false,.bool false,.bool false,.bool false,.bool false,.bool false,.bool false,.bool false,.bool false,.bool false,.bool false,.bool false,.bool false,.bool false,.bool false,.bool false,.bool false,.bool false,.bool false,.bool false,.bool false,.bool false,.bool false,.bool false,.bool false,.bool false,.bool false,.bool false,.bool false,.bool false,.bool false,.bool false,.bool false,.bool false,.bool false,.bool false,.bool false,.bool false,.bool false,.bool false,.bool false,.bool false,.bool false,.bool false,.bool false,.bool false,.bool false,.bool false,.bool false,.bool false,.bool false,.bool false,.bool false,.bool false,.bool false,.bool false,.bool false,.bool false,.bool false,.bool false,.bool false,.bool false,.bool false,.bool false,.bool false,.bool false,.bool false,.bool false,.bool false,.bool false,.bool false,.bool false,.bool false,.bool false,.bool false,.bool false,.bool false,.bool false,.bool false,.bool false,.bool false,.bool false,.bool false,.bool false,.bool false,.bool false,.bool false,.bool false,.bool false,.bool false,.bool false,.bool false,.bool false,.bool false,.bool false,.bool false,.bool false,.bool false,.bool false,.bool false,.bool false,.bool false,.bool false,.bool false,.bool false,.bool false,.bool false,.bool false,.bool false,.bool false,.bool false,.bool false,.bool false,.bool false,.bool false,.bool false,.bool false,.bool false,.bool false,.bool false,.bool false,.bool false,.bool false,.bool false,.bool false,.bool false,.bool false,.bool false,.bool false,.bool false,.bool false,.bool false,.bool false,.bool false,.bool false,.bool false,.bool false,.bool false,.bool false,.bool false,.bool false,.bool false,.bool false,.bool false,.bool false,.bool false,.bool false,.bool false,.bool false,.bool false,.bool false,.bool false,.bool false,.bool false,.bool false,.bool false,.bool false,.bool false,.bool false,.bool false,.bool false,.bool false,.bool false,.bool false,.bool false,.bool false,.bool false,.bool false,.bool false,.bool false,.bool false,.bool false,.bool false,.bool false,.bool false,.bool false,.bool false,.bool false,.bool false,.bool false,.bool false,.bool false,.bool false,.bool false,.bool false,.bool false,.bool false,.bool false,.bool false,.bool false,.bool false,.bool false,.bool false,.bool false,.bool false,.bool false,.bool false,.bool false,.bool false,.bool false,.bool false,.bool false,.bool false,.bool false,.bool false,.bool false,.bool false,.bool false,.bool false,.bool false,.bool false,.bool false,.bool false,.bool false,.bool false,.bool false,.bool false,.bool false,.bool false,.bool false,.bool false,.bool false,.bool false,.bool false,.bool false,.bool false,.bool false,.bool false,.bool false,.bool false,.bool false,.bool false,.bool false,.bool false,.bool false,.bool false,.bool false,.bool false,.bool false,.bool false,.bool false,.bool false,.bool false,.bool false,.bool false,.bool false,.bool false,.bool false,.bool false,.bool false,.bool false,.bool false,.bool false,.bool false,.bool false,.bool false,.bool false,.bool false,.bool false,.bool false,.bool false,.bool false,.bool false,.bool false,.bool false,.bool false,.bool false,.bool false,.bool false,.bool false,.bool false,.bool false,.bool false,.bool false,.bool false,.bool false,.bool false,.bool false,.bool false,.bool false,.bool false,.bool false,.bool false,.bool false,.bool false,.bool false,.bool false,.bool false,.bool false,.bool false,.bool false,.bool false,.bool false,.bool false,.bool false,.bool false,.bool false,.bool false,.bool false,.bool false,.bool false,.bool false,.bool false,.bool false,.bool false,.bool false,.bool false,.bool false,.bool false,.bool false,.bool false,.bool false,.bool false,.bool false,.bool false,.bool false,.bool false,.bool false,.bool false,.bool false,.bool false,.bool false,.bool false,.bool false,.bool false,.bool false,.bool false,.bool false,.bool false,.bool false]⟩) w:=by kernel_rfl
@[simp] theorem st135 (w:AW) (a:Addr) (x:Value) (hx:(cellsOf x).length=356):storeA Try.prog w 135 (.pointer (some a)) x=wR (wr w a.block a.off (cellsOf x)) undef:=store_eq (by kernel_rfl) a x hx
@[simp] theorem ld135 (w:AW) (a:Addr):loadA Try.prog w 135 (.pointer (some a))=vR w (aggM (rd w a.block a.off 356)):=load_agg (by kernel_rfl) (by kernel_rfl) a
@[simp] theorem fa128_0 (w:AW) (a:Addr):fieldAddrA Try.prog w 128 0 (.pointer (some a))=.val (.pointer (some (a.add 0))) w:=by kernel_rfl
@[simp] theorem ld4 (w:AW) (a:Addr):loadA Try.prog w 4 (.pointer (some a))=vR w (rd1 w a.block a.off):=load_one (by kernel_rfl) a
@[simp] theorem fa128_1 (w:AW) (a:Addr):fieldAddrA Try.prog w 128 1 (.pointer (some a))=.val (.pointer (some (a.add 356))) w:=by kernel_rfl
@[simp] theorem ld125 (w:AW) (a:Addr):loadA Try.prog w 125 (.pointer (some a))=vR w (rd1 w a.block a.off):=load_one (by kernel_rfl) a
@[simp] theorem bd132_0_1 (w:AW) (x0:Int) (x1:Int):buildA Try.prog w 132 [(0,.int .i64 x0),(1,.int .i64 x1)]=.val (.agg ⟨[.int .i64 x0,.int .i64 x1]⟩) w:=by kernel_rfl
@[simp] theorem st4 (w:AW) (a:Addr) (x:Value) (hx:(cellsOf x).length=1):storeA Try.prog w 4 (.pointer (some a)) x=wR (wr w a.block a.off (cellsOf x)) undef:=store_eq (by kernel_rfl) a x hx
@[simp] theorem rs135 (w:AW) (a:Addr):ldA Try.prog w 135 a=aggM (rd w a.block a.off 356):=ld_agg (by kernel_rfl) (by kernel_rfl) a
noncomputable def mc94_l2:MC:=.seq (.ops [⟨false,none,some 24,0,.binOp .lss 3 (.tmp 23) (.tmp 22) 3⟩]) (.seq (.cond (.tmp 24) (.skip) (.exit 4)) (.seq (.block 5 (.seq (.ops [⟨false,none,some 25,0,.indexAddr 42 (.tmp 21) (.tmp 23)⟩,⟨false,none,some 26,3,.load 3 (.tmp 25)⟩,⟨false,none,some 7,3,.assign (.tmp 26)⟩]) (.seq (.ops [⟨false,none,some 27,3,.move (.tmp 5)⟩,⟨false,none,some 28,0,.indexAddr 135 (.tmp 4) (.tmp 27)⟩,⟨false,none,some 29,4,.load 4 (.tmp 28)⟩,⟨false,none,some 30,4,.move (.tmp 29)⟩,⟨false,some (30,true),some 31,98,.move (.tmp 0)⟩,⟨false,some (30,true),some 32,0,.nilCheck (.tmp 31)⟩,⟨false,some (30,true),some 33,0,.fieldAddr 128 (.tmp 32) 1⟩,⟨false,some (30,true),some 34,125,.load 125 (.tmp 33)⟩,⟨false,some (30,true),some 35,3,.move (.tmp 5)⟩,⟨false,some (30,true),some 36,3,.move (.tmp 7)⟩,⟨false,some (30,true),some 37,132,.build 132 #[(0,.tmp 35),(1,.tmp 36)]⟩,⟨false,some (30,true),some 38,3,.lookup 125 (.tmp 34) (.tmp 37) false⟩,⟨false,some (30,true),some 39,4,.binOp .gtr 3 (.tmp 38) (.const (.int .i64 0)) 3⟩,⟨false,none,some 40,4,.pick (.tmp 30) (.tmp 39) (.const (.bool false))⟩]) (.cond (.tmp 40) (.ops [⟨false,none,some 41,3,.move (.tmp 7)⟩,⟨false,none,some 42,0,.indexAddr 135 (.tmp 4) (.tmp 41)⟩,⟨false,none,none,0,.store 4 (.tmp 42) (.const (.bool true))⟩]) (.skip))))) (.ops [⟨false,none,some 43,3,.binOp .add 3 (.tmp 23) (.const (.int .i64 1)) 3⟩,⟨false,none,some 23,3,.move (.tmp 43)⟩])))
noncomputable def mc94_l1:MC:=.seq (.ops [⟨false,none,some 14,4,.binOp .lss 3 (.tmp 13) (.const (.int .i64 356)) 3⟩]) (.seq (.cond (.tmp 14) (.skip) (.exit 2)) (.seq (.block 3 (.seq (.ops [⟨false,none,some 15,3,.move (.tmp 13)⟩,⟨false,none,some 5,3,.assign (.tmp 15)⟩]) (.seq (.ops [⟨false,none,some 16,98,.move (.tmp 0)⟩,⟨false,none,some 17,3,.move (.tmp 5)⟩,⟨false,none,some 18,0,.nilCheck (.tmp 16)⟩,⟨false,none,some 19,0,.fieldAddr 128 (.tmp 18) 0⟩,⟨false,none,some 20,0,.indexAddr 126 (.tmp 19) (.tmp 17)⟩,⟨false,none,some 21,42,.load 42 (.tmp 20)⟩,⟨false,none,some 22,3,.call ⟨.builtin .len,#[.tmp 21],#[42]⟩⟩,⟨false,none,some 23,3,.move (.const (.int .i64 0))⟩]) (.block 4 (.loop mc94_l2))))) (.ops [⟨false,none,some 44,3,.binOp .add 3 (.tmp 13) (.const (.int .i64 1)) 3⟩,⟨false,none,some 13,3,.move (.tmp 44)⟩])))
noncomputable def mc94_l0:MC:=.seq (.seq (.ops [⟨false,none,some 9,135,.load 135 (.tmp 4)⟩,⟨false,none,some 10,135,.load 135 (.tmp 3)⟩,⟨false,none,some 11,4,.binOp .neq 135 (.tmp 9) (.tmp 10) 135⟩]) (.cond (.tmp 11) (.skip) (.exit 0))) (.block 1 (.seq (.ops [⟨false,none,some 12,135,.load 135 (.tmp 4)⟩,⟨false,none,none,0,.store 135 (.tmp 3) (.tmp 12)⟩]) (.seq (.ops [⟨false,none,some 13,3,.move (.const (.int .i64 0))⟩]) (.block 2 (.loop mc94_l1)))))
noncomputable def mc94:MC:=.seq (.ops [⟨false,none,some 2,0,.alloc 135⟩]) (.seq (.ops [⟨false,none,some 3,0,.alloc 135⟩]) (.seq (.ops [⟨false,none,some 8,135,.build 135 #[(0,.const (.bool true))]⟩,⟨false,none,some 4,0,.alloc 135⟩,⟨false,none,none,0,.store 135 (.tmp 4) (.tmp 8)⟩]) (.seq (.block 0 (.loop mc94_l0)) (.seq (.ops [⟨false,none,some 45,135,.load 135 (.tmp 4)⟩,⟨false,none,none,0,.store 135 (.tmp 2) (.tmp 45)⟩]) (.ret)))))
theorem text94:textF Try.prog 94=some (46,[.cell 2 135],mc94):=by kernel_rfl
end Go.Proofs.Ytiokkkjahkhbfaa.walk
namespace Go.Sh
open Go
abbrev Wy:Type:=Int × Int
def leF (L:List (Wy × Int)) (a b:Int):Int:=(lookK L (a,b)).getD 0
def bAt (b:List Bool) (k:Nat):Bool:=match b[k]? with | some x=>x | none=>false
def stE (L:List (Wy × Int)) (f:Nat) (b:List Bool) (z:Int):List Bool:=if bAt b f && decide (0 < leF L f z) then b.set z.toNat true else b
def stF (L:List (Wy × Int)) (nx:List (List Int)) (b:List Bool) (f:Nat):List Bool:=match nx[f]? with | some r=>r.foldl (stE L f) b | none=>b
def rnd (L:List (Wy × Int)) (nx:List (List Int)) (b:List Bool):List Bool:=(List.range 356).foldl (stF L nx) b
def rchN (L:List (Wy × Int)) (nx:List (List Int)):Nat→List Bool→List Bool→List Bool
 | 0,_,now=>now
 | n + 1,bf,now=>if now=bf then now else rchN L nx n now (rnd L nx now)
def b0L:List Bool:=List.replicate 356 false
def b1L:List Bool:=true::List.replicate 355 false
def rchL (L:List (Wy × Int)) (nx:List (List Int)):List Bool:=rchN L nx 400 b0L b1L
theorem bAt_set (b:List Bool) (k j:Nat):bAt (b.set k true) j=if j=k∧k < b.length then true else bAt b j:=by
 unfold bAt
 rw [List.getElem?_set]
 by_cases e:k=j
 ·subst e
  by_cases h:k < b.length
  ·simp [h]
  ·simp [h]
 ·rw [if_neg e,if_neg (fun h=>e h.1.symm)]
def leB (a b:List Bool):Prop:=a.length=b.length∧∀ k,bAt a k=true→bAt b k=true
theorem leB.refl (a:List Bool):leB a a:=⟨rfl,fun _ h=>h⟩
theorem leB.trans {a b c:List Bool} (h:leB a b) (k:leB b c):leB a c:=⟨h.1.trans k.1,fun j hj=>k.2 j (h.2 j hj)⟩
theorem stE_le (L:List (Wy × Int)) (f:Nat) (b:List Bool) (z:Int):leB b (stE L f b z):=by
 unfold stE
 split
 ·refine ⟨by simp,fun k hk=>?_⟩
  rw [bAt_set]
  split
  ·rfl
  ·exact hk
 ·exact leB.refl b
theorem foldE_le (L:List (Wy × Int)) (f:Nat):∀ (r:List Int) (b:List Bool),leB b (r.foldl (stE L f) b)
 | [],b=>leB.refl b
 | z::r,b=>(stE_le L f b z).trans (foldE_le L f r _)
theorem stF_le (L:List (Wy × Int)) (nx:List (List Int)) (b:List Bool) (f:Nat):leB b (stF L nx b f):=by
 unfold stF
 split
 ·exact foldE_le L f _ b
 ·exact leB.refl b
theorem foldF_le (L:List (Wy × Int)) (nx:List (List Int)):∀ (l:List Nat) (b:List Bool),leB b (l.foldl (stF L nx) b)
 | [],b=>leB.refl b
 | f::l,b=>(stF_le L nx b f).trans (foldF_le L nx l _)
theorem rnd_le (L:List (Wy × Int)) (nx:List (List Int)) (b:List Bool):leB b (rnd L nx b):=foldF_le L nx _ b
theorem count_le:∀ {a b:List Bool},leB a b→a.count true≤b.count true∧(a ≠ b→a.count true < b.count true)
 | [],[],_=>⟨Nat.le_refl _,fun h=>absurd rfl h⟩
 | [],_::_,h=>by have:=h.1; simp at this
 | _::_,[],h=>by have:=h.1; simp at this
 | x::a,y::b,h=>by
  have ht:leB a b:=⟨by have:=h.1; simpa using this,fun k hk=>h.2 (k + 1) hk⟩
  have h0:x=true→y=true:=fun e=>h.2 0 e
  obtain ⟨i1,i2⟩:=count_le ht
  rw [List.count_cons,List.count_cons]
  by_cases e:a=b
  ·subst e
   cases x <;> cases y
   ·simp
   ·simp
   ·have:=h0 rfl; cases this
   ·simp
  ·have:=i2 e
   cases x <;> cases y
   ·simp; omega
   ·simp; omega
   ·have:=h0 rfl; cases this
   ·simp; omega
theorem count_len (a:List Bool):a.count true≤a.length:=List.count_le_length
theorem fold_take {α β:Type} (g:β→α→β) (b:β) {l:List α} {i:Nat} {x:α} (h:l[i]?=some x):(l.take (i + 1)).foldl g b=g ((l.take i).foldl g b) x:=by
 rw [List.take_add_one,h,List.foldl_append]; rfl
theorem fold_rng {β:Type} (g:β→Nat→β) (b:β) (i:Nat):(List.range (i + 1)).foldl g b=g ((List.range i).foldl g b) i:=by
 rw [List.range_succ,List.foldl_append]; rfl
theorem sameL_bools:∀ (n:Nat) (a b:List Bool),a.length=n→b.length=n→sameL (List.replicate n 1) (a.map Value.bool) (b.map Value.bool)=some (decide (a=b))
 | 0,[],[],_,_=>rfl
 | 0,_::_,_,h,_=>by simp at h
 | 0,_,_::_,_,h=>by simp at h
 | n + 1,[],_,h,_=>by simp at h
 | n + 1,_::_,[],_,h=>by simp at h
 | n + 1,x::a,y::b,h1,h2=>by
  have ih:=sameL_bools n a b (by simpa using h1) (by simpa using h2)
  rw [List.replicate_succ,List.map_cons,List.map_cons]
  unfold sameL
  have e:same1 1 (Value.bool x) (Value.bool y)=some (decide (x=y)):=by cases x <;> cases y <;> rfl
  rw [e]
  by_cases k:x=y
  ·subst k
   simp only [decide_true,cond_true,ih,List.cons.injEq,true_and]
  ·simp only [decide_eq_false k,cond_false,List.cons.injEq,k,false_and,decide_false]
def bC (b:List Bool):List Value:=b.map Value.bool
theorem bC_length (b:List Bool):(bC b).length=b.length:=by simp [bC]
theorem bC_at {b:List Bool} {k:Nat} (h:k < b.length):(bC b)[k]?=some (.bool (bAt b k)):=by
 unfold bC bAt
 rw [List.getElem?_map,List.getElem?_eq_getElem h]; rfl
theorem bC_set (b:List Bool) (k:Nat) (h:k < b.length):(bC b).take k++(.bool true::(bC b).drop (k + 1))=bC (b.set k true):=by
 unfold bC
 apply List.ext_getElem?
 intro j
 rw [List.getElem?_map,List.getElem?_set]
 have hk:(List.take k (List.map Value.bool b)).length=k:=by simp; omega
 by_cases e:j < k
 ·rw [List.getElem?_append_left (by omega),List.getElem?_take,if_pos e,List.getElem?_map,if_neg (by omega)]
 ·rw [List.getElem?_append_right (by omega),hk]
  by_cases e2:j=k
  ·subst e2
   simp [h]
  ·obtain ⟨m,hm⟩:∃ m,j - k=m + 1:=⟨j - k - 1,by omega⟩
   rw [hm,List.getElem?_cons_succ,List.getElem?_drop,List.getElem?_map,if_neg (by omega)]
   congr 2; omega
end Go.Sh
namespace Go.Proofs.Ytiokkkjahkhbfaa.walk
open Go Go.Sh
set_option maxRecDepth 100000
def wyC (k:Wy):Value:=.agg ⟨[.int .i64 k.1,.int .i64 k.2]⟩
theorem wy_ok:KeyOk (true,[0,0]) wyC:=by
 refine ⟨fun a=>rfl,fun a b=>?_⟩
 obtain ⟨a1,a2⟩:=a
 obtain ⟨b1,b2⟩:=b
 by_cases h1:a1=b1 <;> by_cases h2:a2=b2 <;> simp [wyC,eqFlat,flatCells,sameL,same1,sameInt,sameK_refl,intEq_eq,h1,h2]
theorem map125:mapOf Try.prog 125=some (3,(true,[0,0])):=by kernel_rfl
theorem arr126:arrN Try.prog 126=some (356,42):=by kernel_rfl
theorem arr135:arrN Try.prog 135=some (356,4):=by kernel_rfl
theorem sz4:szOf Try.prog 4=some 1:=by kernel_rfl
theorem ia126 (w:AW) (a:Addr) {i:Nat} (hi:i < 356):indexAddrA Try.prog w 126 (.pointer (some a)) (.int .i64 (i:Int))=.val (.pointer (some (a.add (i * 1)))) w:=ia_arr arr126 sz42 rfl w a _ hi
theorem ia135 (w:AW) (a:Addr) {i:Nat} (hi:i < 356):indexAddrA Try.prog w 135 (.pointer (some a)) (.int .i64 (i:Int))=.val (.pointer (some (a.add (i * 1)))) w:=ia_arr arr135 sz4 rfl w a _ hi
theorem al135L (w:AW):allocA Try.prog w 135=.val (.pointer (some ⟨w.next,0,none⟩)) ⟨w.heap.put w.next (some (.cells (bC b0L) 135 false)),w.next + 1,w.lim⟩:=(al135 w).trans (by kernel_rfl)
theorem bd135L (w:AW):buildA Try.prog w 135 [(0,.bool true)]=.val (.agg ⟨bC b1L⟩) w:=(bd135_0 w true).trans (by kernel_rfl)
theorem ne135R (c:Bool) (x y:Value) (w:AW):(binW Try.prog .neq 135 c).val x y w=vR w ((eqFlat true (List.replicate 356 1) x y).map fun b=>.bool (!b)):=bin_neq (by kernel_rfl) c x y
theorem ne135L (c:Bool) (a b:List Bool) (ha:a.length=356) (hb:b.length=356) (w:AW):(binW Try.prog .neq 135 c).val (.agg ⟨bC a⟩) (.agg ⟨bC b⟩) w=.val (.bool (!decide (a=b))) w:=by
 have e:eqFlat true (List.replicate 356 1) (.agg ⟨bC a⟩) (.agg ⟨bC b⟩)=some (decide (a=b)):=by
  unfold eqFlat flatCells
  simp only [cond_true]
  exact sameL_bools 356 a b ha hb
 rw [ne135R,e]; rfl
structure NetV (w:AW) (N km:Nat) (nvs:List Value) (nx:List (List Int)) (L:List (Wy × Int)):Prop where
 g:w.heap.get N=some (.cells (nvs++[.map (some km)]) 128 false)
 lv:nvs.length=356
 lx:nx.length=356
 rows:∀ (f:Nat) v r,nvs[f]?=some v→nx[f]?=some r→RowsV intC w v r
 m:MapAt wyC inV w km L
 to:∀ r ∈ nx,∀ z ∈ r,0≤z∧z < 356
 sh:∀ r ∈ nx,r.length≤1000
 nN:N < w.next
 nk:km < w.next
theorem NetV.up {w w':AW} {N km:Nat} {nvs:List Value} {nx:List (List Int)} {L:List (Wy × Int)} (h:NetV w N km nvs nx L) (u:Up w w'):NetV w' N km nvs nx L :=
 ⟨by rw [u.at h.nN]; exact h.g,h.lv,h.lx,fun f v r h1 h2=>(h.rows f v r h1 h2).up u,mapAt_up h.m u h.nk,h.to,h.sh,Nat.lt_of_lt_of_le h.nN u.next,Nat.lt_of_lt_of_le h.nk u.next⟩
section
variable {ov:Ov} {w0:AW} {N km:Nat} {nvs:List Value} {nx:List (List Int)} {L:List (Wy × Int)}
theorem fold_len {f:Nat} {r:List Int} {b:List Bool} (h:b.length=356):(r.foldl (stE L f) b).length=356:=by rw [← (foldE_le L f r b).1,h]
set_option maxHeartbeats 1000000 in
theorem loop94c (K:Nat) (hN:NetV w0 N km nvs nx L) {C D n1:Nat} (hC0:w0.next≤C) (hD0:w0.next≤D) (hCD:¬ C=D) (hl0:w0.lim≤w0.next) (hDn:D < n1) (f:Nat) (hf:f < 356) (row:List Int) (hr:nx[f]?=some row) (rv:Value) (hrow:RowsV intC w0 rv row) (a b:List Bool) (hb:b.length=356) (w:AW) (hu:Up w0 w) (hn:w.next=n1) (gC:w.heap.get C=some (.cells (bC a) 135 false)) (gD:w.heap.get D=some (.cells (bC b) 135 false))
  (v2 v13:Value) (t:Tm) (t0:tget t 0=.pointer (some ⟨N,0,none⟩)) (t2:tget t 2=v2) (t3:tget t 3=.pointer (some ⟨C,0,none⟩)) (t4:tget t 4=.pointer (some ⟨D,0,none⟩)) (t5:tget t 5=.int .i64 (f:Nat)) (t13:tget t 13=v13) (t21:tget t 21=rv) (t22:tget t 22=.int .i64 (row.length:Nat)) (t23:tget t 23=.int .i64 0) (Q:Ex→Tm→AW→Prop)
  (hQ:∀ t w',Up w0 w'→w'.next=n1→w'.heap.get C=some (.cells (bC a) 135 false)→w'.heap.get D=some (.cells (bC (row.foldl (stE L f) b)) 135 false)→tget t 0=.pointer (some ⟨N,0,none⟩)→tget t 2=v2→tget t 3=.pointer (some ⟨C,0,none⟩)→tget t 4=.pointer (some ⟨D,0,none⟩)→tget t 13=v13→Q (.exit 4) t w'):wp (exM Try.prog (run Try.prog ov K) (.loop mc94_l2) t w) Q:=by
 refine wp_rounds (fun i t w'=>Up w0 w'∧w'.next=n1∧w'.heap.get C=some (.cells (bC a) 135 false)∧w'.heap.get D=some (.cells (bC ((row.take i).foldl (stE L f) b)) 135 false)∧tget t 0=.pointer (some ⟨N,0,none⟩)∧tget t 2=v2∧tget t 3=.pointer (some ⟨C,0,none⟩)∧tget t 4=.pointer (some ⟨D,0,none⟩)∧tget t 5=.int .i64 (f:Nat)∧tget t 13=v13∧tget t 21=rv∧tget t 22=.int .i64 (row.length:Nat)∧tget t 23=.int .i64 (i:Nat)∧i≤row.length) 2000 (by decide) ⟨hu,hn,gC,gD,t0,t2,t3,t4,t5,t13,t21,t22,by simpa using t23,Nat.zero_le _⟩ ?_
 clear t0 t2 t3 t4 t5 t13 t21 t22 t23 hu hn gC gD t w
 rintro i t w ⟨hu,hn,gC,gD,t0,t2,t3,t4,t5,t13,t21,t22,t23,hi⟩
 have hsh:=hN.sh row (List.mem_of_getElem? hr)
 by_cases hlt:i < row.length
 ·obtain ⟨z,hz⟩:=lt_get hlt
  obtain ⟨z0,z1⟩:=hN.to row (List.mem_of_getElem? hr) z (List.mem_of_getElem? hz)
  obtain ⟨k,rfl⟩:∃ k:Nat,z=k:=⟨z.toNat,by omega⟩
  obtain ⟨p,ia,_,ld,_⟩:=getR un42 sz3 intC_length (hrow.up hu) rfl hz
  have ld:=ld 0 _ rfl
  simp only [Nat.add_zero] at ld
  have hw1:IntKind.wrap .i64 ((i:Int) + 1)=(i:Int) + 1:=wrap64_in (by omega) (by omega)
  have hN':=hN.up hu
  have gN:=hN'.g
  have hbl:=fold_len (L:=L) (f:=f) (r:=row.take i) hb
  have hfold:=fold_take (stE L f) b hz
  obtain ⟨b',hb'⟩:∃ b',b'=(row.take i).foldl (stE L f) b:=⟨_,rfl⟩
  rw [← hb'] at gD hbl hfold
  have i1:=fun w=>ia135 w ⟨D,0,none⟩ hf
  have i2:=fun w=>ia135 w ⟨D,0,none⟩ (show k < 356 by omega)
  have a1:=bC_at (b:=b') (k:=f) (by omega)
  have s1:=bC_set b' k (by omega)
  have f1:k + 1≤(bC b').length:=by rw [bC_length]; omega
  have hlk:=lookup_k (P:=Try.prog) (s:=125) map125 wy_ok zero3 hN'.m ((f:Nat),(k:Nat)) false
  have hlv:lookupA Try.prog w 125 (.map (some km)) (.agg ⟨[.int .i64 (f:Nat),.int .i64 (k:Nat)]⟩) false=.val (.int .i64 (leF L (f:Nat) (k:Nat))) w:=by
   refine hlk.trans ?_
   unfold leF
   cases lookK L ((f:Nat),(k:Nat)) <;> rfl
  have am:(nvs++[.map (some km)])[356]?=some (Value.map (some km)):=by rw [List.getElem?_append_right (by rw [hN.lv]; exact Nat.le_refl _),hN.lv]; rfl
  obtain ⟨ns,hns⟩:∃ ns,ns=nvs++[Value.map (some km)]:=⟨_,rfl⟩
  rw [← hns] at gN am
  obtain ⟨cs,hcs⟩:∃ cs,cs=bC b':=⟨_,rfl⟩
  rw [← hcs] at gD a1 f1 s1
  have lD:w.lim≤D:=by rw [hu.lim]; omega
  have ND:¬ N=D:=by have:=hN.nN; omega
  cases hbf:bAt b' f with
  | false =>
   rw [hbf] at a1
   have e:stE L f b' (k:Nat)=b':=by simp [stE,hbf]
   rw [e] at hfold
   simp [mc94_l2,t0,t2,t3,t4,t5,t13,t21,t22,t23,hlt,ia,ld,i1,gD,a1,hw1]
   exact ⟨by omega,hu,hn,gC,by rw [hfold,← hcs],hlt⟩
  | true =>
   rw [hbf] at a1
   by_cases hp:0 < leF L (f:Nat) (k:Nat)
   ·have e:stE L f b' (k:Nat)=b'.set k true:=by simp [stE,hbf,hp]
    rw [e] at hfold
    simp [mc94_l2,t0,t2,t3,t4,t5,t13,t21,t22,t23,hlt,ia,ld,i1,i2,gD,gN,ND,am,a1,f1,lD,hlv,hp,hw1]
    refine ⟨by omega,?_,hn,?_,?_,hlt⟩
    ·exact ⟨fun x hx=>by rw [get_put,if_neg (by omega)]; exact hu.at hx,hu.next,hu.lim⟩
    ·rw [if_neg hCD]; exact gC
    ·rw [hfold,s1]
   ·have e:stE L f b' (k:Nat)=b':=by simp [stE,hbf,hp]
    rw [e] at hfold
    simp [mc94_l2,t0,t2,t3,t4,t5,t13,t21,t22,t23,hlt,ia,ld,i1,gD,gN,ND,am,a1,hlv,hp,hw1]
    exact ⟨by omega,hu,hn,gC,by rw [hfold,← hcs],hlt⟩
 ·have hi':i=row.length:=by omega
  subst hi'
  rw [List.take_length] at gD
  simp [mc94_l2,t22,t23]
  exact hQ _ _ hu hn gC gD (by simp [t0]) (by simp [t2]) (by simp [t3]) (by simp [t4]) (by simp [t13])
set_option maxHeartbeats 1000000 in
theorem loop94b (K:Nat) (hN:NetV w0 N km nvs nx L) {C D n1:Nat} (hC0:w0.next≤C) (hD0:w0.next≤D) (hCD:¬ C=D) (hl0:w0.lim≤w0.next) (hDn:D < n1) (a b:List Bool) (hb:b.length=356) (w:AW) (hu:Up w0 w) (hn:w.next=n1) (gC:w.heap.get C=some (.cells (bC a) 135 false)) (gD:w.heap.get D=some (.cells (bC b) 135 false))
  (v2:Value) (t:Tm) (t0:tget t 0=.pointer (some ⟨N,0,none⟩)) (t2:tget t 2=v2) (t3:tget t 3=.pointer (some ⟨C,0,none⟩)) (t4:tget t 4=.pointer (some ⟨D,0,none⟩)) (t13:tget t 13=.int .i64 0) (Q:Ex→Tm→AW→Prop)
  (hQ:∀ t w',Up w0 w'→w'.next=n1→w'.heap.get C=some (.cells (bC a) 135 false)→w'.heap.get D=some (.cells (bC (rnd L nx b)) 135 false)→tget t 0=.pointer (some ⟨N,0,none⟩)→tget t 2=v2→tget t 3=.pointer (some ⟨C,0,none⟩)→tget t 4=.pointer (some ⟨D,0,none⟩)→Q (.exit 2) t w'):wp (exM Try.prog (run Try.prog ov K) (.loop mc94_l1) t w) Q:=by
 refine wp_rounds (fun i t w'=>Up w0 w'∧w'.next=n1∧w'.heap.get C=some (.cells (bC a) 135 false)∧w'.heap.get D=some (.cells (bC ((List.range i).foldl (stF L nx) b)) 135 false)∧tget t 0=.pointer (some ⟨N,0,none⟩)∧tget t 2=v2∧tget t 3=.pointer (some ⟨C,0,none⟩)∧tget t 4=.pointer (some ⟨D,0,none⟩)∧tget t 13=.int .i64 (i:Nat)∧i≤356) 400 (by decide) ⟨hu,hn,gC,gD,t0,t2,t3,t4,by simpa using t13,Nat.zero_le _⟩ ?_
 clear t0 t2 t3 t4 t13 hu hn gC gD t w
 rintro i t w ⟨hu,hn,gC,gD,t0,t2,t3,t4,t13,hi⟩
 by_cases hlt:i < 356
 ·obtain ⟨rv,hrv⟩:=lt_get (show i < nvs.length by rw [hN.lv]; exact hlt)
  obtain ⟨row,hrow⟩:=lt_get (show i < nx.length by rw [hN.lx]; exact hlt)
  have hR:=hN.rows i rv row hrv hrow
  have hN':=hN.up hu
  have gN:=hN'.g
  have l42:=fun w2=>len42V (w':=w2) hR
  have hlt':(i:Int) < 356:=by omega
  have hw1:IntKind.wrap .i64 ((i:Int) + 1)=(i:Int) + 1:=wrap64_in (by omega) (by omega)
  have i1:=fun w=>ia126 w ⟨N,0,none⟩ hlt
  have ar:(nvs++[.map (some km)])[i]?=some rv:=by rw [List.getElem?_append_left (by rw [hN.lv]; exact hlt)]; exact hrv
  have hbl:((List.range i).foldl (stF L nx) b).length=356:=by rw [← (foldF_le L nx (List.range i) b).1,hb]
  have efold:(List.range (i + 1)).foldl (stF L nx) b=row.foldl (stE L i) ((List.range i).foldl (stF L nx) b):=by
   rw [fold_rng]
   show stF L nx _ i=_
   unfold stF
   rw [hrow]
  obtain ⟨ns,hns⟩:∃ ns,ns=nvs++[Value.map (some km)]:=⟨_,rfl⟩
  rw [← hns] at gN ar
  obtain ⟨ra,rc,rfl⟩:=hR.len
  simp [mc94_l1,t0,t2,t3,t4,t13,hlt,hlt',i1,gN,ar,l42]
  refine wp_seqX (wp_blockX (wp_blockX ?_))
  refine (loop94c (ov:=ov) K hN hC0 hD0 hCD hl0 hDn i hlt row hrow _ hR a _ hbl w hu hn gC gD v2 (.int .i64 (i:Nat)) _ (by simp [t0]) (by simp [t2]) (by simp [t3]) (by simp [t4]) (by simp) (by simp [t13]) (by simp) (by simp) (by simp) _ ?_)
  intro t w2 hu2 hn2 gC2 gD2 t0 t2 t3 t4 t13
  rw [← efold] at gD2
  simp [t13,hw1]
  exact ⟨by omega,hu2,hn2,gC2,gD2,t0,t2,t3,t4,by omega⟩
 ·have hi':i=356:=by omega
  subst hi'
  simp [mc94_l1,t13]
  exact hQ _ _ hu hn gC gD (by simp [t0]) (by simp [t2]) (by simp [t3]) (by simp [t4])
def S94:PSpec where
 R args w v:=∃ (N km:Nat) (nvs:List Value) (nx:List (List Int)) (L:List (Wy × Int)),args=[.pointer (some ⟨N,0,none⟩)]∧NetV w N km nvs nx L∧v=.agg ⟨bC (rchL L nx)⟩
 uniq:=by
  rintro _ w _ _ ⟨N,km,nvs,nx,L,rfl,h,rfl⟩ ⟨N',km',nvs',nx',L',e,h',rfl⟩
  cases e
  have e1:=h.g.symm.trans h'.g
  simp only [Option.some.injEq,AObj.cells.injEq,and_true] at e1
  have e2:=List.append_inj e1 (by rw [h.lv,h'.lv])
  obtain ⟨rfl,e3⟩:=e2
  cases e3
  have e4:=(h.m:w.heap.get km=_).symm.trans h'.m
  simp only [Option.some.injEq,AObj.map.injEq] at e4
  have key:∀ (i:Nat) (A B:List (Wy × Int)),entsK wyC inV i A=entsK wyC inV i B→A=B:=by
   intro i A
   induction A generalizing i with
   | nil=>intro B hB; cases B with | nil=>rfl | cons _ _=>simp [entsK] at hB
   | cons x A ih =>
    intro B hB
    cases B with
    | nil=>simp [entsK] at hB
    | cons y B =>
     simp only [entsK,List.cons.injEq,MapEntry.mk.injEq] at hB
     obtain ⟨⟨k1,k2,_⟩,k3⟩:=hB
     rw [ih _ B k3]
     obtain ⟨⟨x1,x2⟩,x3⟩:=x
     obtain ⟨⟨y1,y2⟩,y3⟩:=y
     simp [wyC,inV] at k1 k2
     obtain ⟨rfl,rfl⟩:=k1
     subst k2
     rfl
  rw [key 0 L L' e4.1]
  have e5:nx=nx':=by
   apply List.ext_getElem?
   intro f
   by_cases hf:f < 356
   ·obtain ⟨v,hv⟩:=lt_get (show f < nvs.length by rw [h.lv]; exact hf)
    obtain ⟨r,hr⟩:=lt_get (show f < nx.length by rw [h.lx]; exact hf)
    obtain ⟨r',hr'⟩:=lt_get (show f < nx'.length by rw [h'.lx]; exact hf)
    rw [hr,hr',(h.rows f v r hv hr).uniq (m:=1) intC_length intC_inj (h'.rows f v r' hv hr')]
   ·rw [List.getElem?_eq_none (by rw [h.lx]; omega),List.getElem?_eq_none (by rw [h'.lx]; omega)]
  rw [e5]
 shut:=by rintro _ _ _ ⟨N,km,nvs,nx,L,e,h,h2⟩; exact ⟨N,km,nvs,nx,L,e,⟨h.g,h.lv,h.lx,h.rows,h.m,h.to,h.sh,h.nN,h.nk⟩,h2⟩
theorem bC_singles (b:List Bool):singles (bC b)=true:=by
 induction b with
 | nil=>rfl
 | cons x b ih=>exact ih
theorem wrFull {w:AW} {b:Nat} {vs c:List Value} {e:TypeId} (hs:singles vs=true) (hl:w.lim≤b) (hf:vs.length=c.length):wrO w b 0 vs (some (.cells c e false))=some ⟨w.heap.put b (some (.cells vs e false)),w.next,w.lim⟩:=by
 rw [wrO_cells hs hl (by omega)]
 simp [hf]
def RIv (L:List (Wy × Int)) (nx:List (List Int)) (w0:AW) (C D n1 i:Nat) (w:AW):Prop:=∃ a b,Up w0 w∧w.next=n1∧w.heap.get C=some (.cells (bC a) 135 false)∧w.heap.get D=some (.cells (bC b) 135 false)∧leB a b∧a.length=356∧i≤a.count true∧rchN L nx (400 - i) a b=rchL L nx
set_option maxHeartbeats 1000000 in
theorem loop94a (K:Nat) (hN:NetV w0 N km nvs nx L) {C D n1:Nat} (hC0:w0.next≤C) (hD0:w0.next≤D) (hCD:¬ C=D) (hl0:w0.lim≤w0.next) (hDn:D < n1) (hCn:C < n1) (w:AW) (hI:RIv L nx w0 C D n1 0 w)
  (v2:Value) (t:Tm) (t0:tget t 0=.pointer (some ⟨N,0,none⟩)) (t2:tget t 2=v2) (t3:tget t 3=.pointer (some ⟨C,0,none⟩)) (t4:tget t 4=.pointer (some ⟨D,0,none⟩)) (Q:Ex→Tm→AW→Prop)
  (hQ:∀ t w',Up w0 w'→w'.next=n1→w'.heap.get D=some (.cells (bC (rchL L nx)) 135 false)→(rchL L nx).length=356→tget t 2=v2→tget t 4=.pointer (some ⟨D,0,none⟩)→Q (.exit 0) t w'):wp (exM Try.prog (run Try.prog ov K) (.loop mc94_l0) t w) Q:=by
 refine wp_rounds (fun i t w'=>RIv L nx w0 C D n1 i w'∧tget t 0=.pointer (some ⟨N,0,none⟩)∧tget t 2=v2∧tget t 3=.pointer (some ⟨C,0,none⟩)∧tget t 4=.pointer (some ⟨D,0,none⟩)) 400 (by decide) ⟨hI,t0,t2,t3,t4⟩ ?_
 clear hI t0 t2 t3 t4 t w
 rintro i t w ⟨⟨a,b,hu,hn,gC,gD,hab,hal,hia,hre⟩,t0,t2,t3,t4⟩
 have hbl:b.length=356:=by rw [← hab.1,hal]
 have hca:=count_len a
 have nb:=fun c w=>ne135L c b a hbl hal w
 have l1:(bC a).length=356:=by rw [bC_length,hal]
 have l2:(bC b).length=356:=by rw [bC_length,hbl]
 have sb:=bC_singles b
 have lC:w.lim≤C:=by rw [hu.lim]; omega
 have ea:(bC a).take 356=bC a:=List.take_of_length_le (by omega)
 have eb:(bC b).take 356=bC b:=List.take_of_length_le (by omega)
 obtain ⟨ca,hca'⟩:∃ ca,ca=bC a:=⟨_,rfl⟩
 obtain ⟨cb,hcb'⟩:∃ cb,cb=bC b:=⟨_,rfl⟩
 rw [← hca'] at gC l1 ea
 rw [← hcb'] at gD l2 sb eb
 rw [← hca',← hcb'] at nb
 by_cases e:b=a
 ·have en:rchN L nx (400 - i) a b=b:=by
   cases h:400 - i with
   | zero=>rfl
   | succ n=>unfold rchN; rw [if_pos e]
  rw [en] at hre
  rw [decide_eq_true e] at nb
  simp [mc94_l0,t3,t4,gC,gD,l1,l2,ea,eb,nb]
  exact hQ _ _ hu hn (by rw [← hre,← hcb']; exact gD) (by rw [← hre]; exact hbl) (by simp [t2]) (by simp [t4])
 ·have hlt:=(count_le hab).2 (Ne.symm e)
  have hcb:=count_len b
  obtain ⟨n,hn'⟩:∃ n,400 - i=n + 1:=⟨400 - i - 1,by omega⟩
  rw [hn'] at hre
  unfold rchN at hre
  rw [if_neg e] at hre
  rw [decide_eq_false e] at nb
  have hwf:=wrFull (w:=w) (e:=135) sb lC (l2.trans l1.symm)
  simp [-wrO_cells,mc94_l0,t3,t4,gC,gD,l1,l2,ea,eb,nb,cellsOf_agg,hwf,hCD,Ne.symm hCD]
  obtain ⟨w1,hw1⟩:∃ w1:AW,w1=⟨w.heap.put C (some (.cells cb 135 false)),w.next,w.lim⟩:=⟨_,rfl⟩
  rw [← hw1]
  have hu1:Up w0 w1:=by rw [hw1]; exact ⟨fun x hx=>by rw [get_put,if_neg (by omega)]; exact hu.at hx,hu.next,hu.lim⟩
  refine wp_blockX (wp_blockX ?_)
  refine loop94b (ov:=ov) K hN hC0 hD0 hCD hl0 hDn b b hbl w1 hu1 (by rw [hw1]; exact hn) (by rw [hw1,hcb']; simp) (by rw [hw1]; show (w.heap.put C _).get D=_; rw [get_put,if_neg (Ne.symm hCD),gD,hcb']) v2 _ (by simp [t0]) (by simp [t2]) (by simp [t3]) (by simp [t4]) (by simp) _ ?_
  intro t w2 hu2 hn2 gC2 gD2 t0 t2 t3 t4
  have hn'':400 - (i + 1)=n:=by omega
  refine ⟨by omega,⟨b,rnd L nx b,hu2,hn2,gC2,gD2,rnd_le L nx b,hbl,by omega,by rw [hn'',hre]⟩,t0,t2,t3,t4⟩
set_option maxHeartbeats 1000000 in
theorem run94 (ho:∀ args w,ov 94 args w=none) (N km:Nat) (nvs:List Value) (nx:List (List Int)) (L:List (Wy × Int)) (w:AW) (hl:w.lim=w.next) (hN:NetV w N km nvs nx L):∃ v w',(run Try.prog ov 2).call 94 [.pointer (some ⟨N,0,none⟩)] w .none=.ok (.ret v) w' .none∧v=.agg ⟨bC (rchL L nx)⟩:=by
 refine call_wp text94 (by simp) (ho _ _) ?_
 have l0:(bC b0L).length=356:=by rw [bC_length]; rfl
 have l1:(bC b1L).length=356:=by rw [bC_length]; rfl
 obtain ⟨A,hA⟩:∃ A,A=w.next:=⟨_,rfl⟩
 have s1:=bC_singles b1L
 obtain ⟨w0,hw0⟩:∃ w0:AW,w0=⟨w.heap.put A (some (.cells (bC b0L) 135 false)),A + 1,w.lim⟩:=⟨_,rfl⟩
 have u0:Up w w0:=by rw [hw0,hA]; exact (Up.refl w).add _
 have n0:w0.next=A + 1:=by rw [hw0]
 have gA0:w0.heap.get A=some (.cells (bC b0L) 135 false):=by rw [hw0]; simp
 obtain ⟨w1,hw1⟩:∃ w1:AW,w1=⟨((w0.heap.put (A + 1) (some (.cells (bC b0L) 135 false))).put (A + 1 + 1) (some (.cells (bC b0L) 135 false))).put (A + 1 + 1) (some (.cells (bC b1L) 135 false)),A + 1 + 1 + 1,w.lim⟩:=⟨_,rfl⟩
 have u1:Up w0 w1:=by
  rw [hw1]
  exact ⟨fun x hx=>by rw [get_put,if_neg (by omega),get_put,if_neg (by omega),get_put,if_neg (by omega)],by rw [n0]; show A + 1≤A + 1 + 1 + 1; omega,by rw [u0.lim]⟩
 have gC1:w1.heap.get (A + 1)=some (.cells (bC b0L) 135 false):=by rw [hw1]; simp
 have gD1:w1.heap.get (A + 1 + 1)=some (.cells (bC b1L) 135 false):=by rw [hw1]; simp
 obtain ⟨x0,hx0⟩:∃ x,x=bC b0L:=⟨_,rfl⟩
 obtain ⟨x1,hx1⟩:∃ x,x=bC b1L:=⟨_,rfl⟩
 have al:=fun w=>al135L w
 have bd:=fun w=>bd135L w
 have hw1e:=hw1
 rw [hw0] at hw1e
 rw [← hx0,← hx1] at hw1e
 rw [← hx0] at l0
 rw [← hx1] at l1 s1
 simp only [← hx0] at al
 simp only [← hx1] at bd
 have hwf:=wrFull (w:=⟨((w.heap.put A (some (.cells x0 135 false))).put (A + 1) (some (.cells x0 135 false))).put (A + 1 + 1) (some (.cells x0 135 false)),A + 1 + 1 + 1,w.lim⟩) (b:=A + 1 + 1) (e:=135) s1 (by show w.lim≤A + 1 + 1; omega) (l1.trans l0.symm)
 simp [-wrO_cells,mc94,al,bd,← hA,l0,l1,cellsOf_agg,hwf]
 simp only at hw1e
 rw [← hw1e]
 have hlen:w0.lim≤w0.next:=by rw [u0.lim]; omega
 refine wp_seqX (wp_blockX (loop94a (ov:=ov) 1 (hN.up u0) (C:=A + 1) (D:=A + 1 + 1) (n1:=A + 1 + 1 + 1) (by omega) (by omega) (by omega) hlen (by omega) (by omega) w1 ⟨b0L,b1L,u1,by rw [hw1],gC1,gD1,⟨rfl,fun k hk=>?_⟩,rfl,Nat.zero_le _,rfl⟩ (.pointer (some ⟨A,0,none⟩)) _ (by simp) (by simp) (by simp) (by simp) _ ?_))
 ·exfalso
  unfold bAt b0L at hk
  rw [List.getElem?_replicate] at hk
  by_cases e:k < 356
  ·rw [if_pos e] at hk; cases hk
  ·rw [if_neg e] at hk; cases hk
 ·intro t w2 hu2 hn2 gD2 hrl t2 t4
  have gA2:=(hu2.at (show A < w0.next by omega)).trans gA0
  rw [← hx0] at gA2
  have l2:(bC (rchL L nx)).length=356:=by rw [bC_length,hrl]
  have s2:=bC_singles (rchL L nx)
  obtain ⟨x2,hx2⟩:∃ x,x=bC (rchL L nx):=⟨_,rfl⟩
  rw [← hx2] at gD2 l2 s2
  rw [← hx2]
  have e2:x2.take 356=x2:=List.take_of_length_le (by omega)
  have hwf2:=wrFull (w:=w2) (b:=A) (e:=135) s2 (by rw [hu2.lim,u0.lim]; omega) (l2.trans l0.symm)
  have nA:¬ A=A + 1 + 1:=by omega
  simp [-wrO_cells,t2,t4,gD2,gA2,l2,e2,hwf2,cellsOf_agg,tupV]
end
noncomputable def mc36_l1_b6:MC:=.seq (.ops [⟨true,none,some 171,120,.move (.tmp 11)⟩,⟨true,none,some 172,0,.fieldAddr 67 (.tmp 15) 0⟩,⟨true,none,some 173,3,.load 3 (.tmp 172)⟩,⟨true,none,some 174,0,.fieldAddr 67 (.tmp 15) 1⟩,⟨true,none,some 175,3,.load 3 (.tmp 174)⟩,⟨true,none,some 176,0,.fieldAddr 67 (.tmp 15) 2⟩,⟨true,none,some 177,3,.load 3 (.tmp 176)⟩,⟨true,none,some 178,122,.build 122 #[(0,.tmp 173),(1,.tmp 175),(2,.tmp 177)]⟩,⟨true,none,some 179,3,.lookup 120 (.tmp 171) (.tmp 178) false⟩,⟨true,none,some 180,0,.fieldAddr 77 (.tmp 16) 3⟩,⟨true,none,some 181,3,.load 3 (.tmp 180)⟩,⟨true,none,some 182,4,.binOp .gtr 3 (.tmp 179) (.tmp 181) 3⟩,⟨true,none,some 183,4,.move (.tmp 182)⟩,⟨true,some (183,false),some 184,121,.move (.tmp 12)⟩,⟨true,some (183,false),some 185,0,.fieldAddr 67 (.tmp 15) 0⟩,⟨true,some (183,false),some 186,3,.load 3 (.tmp 185)⟩,⟨true,some (183,false),some 187,0,.fieldAddr 67 (.tmp 15) 2⟩,⟨true,some (183,false),some 188,3,.load 3 (.tmp 187)⟩,⟨true,some (183,false),some 189,123,.build 123 #[(0,.tmp 186),(1,.tmp 188)]⟩,⟨true,some (183,false),some 190,3,.lookup 121 (.tmp 184) (.tmp 189) false⟩,⟨true,some (183,false),some 191,0,.fieldAddr 77 (.tmp 16) 4⟩,⟨true,some (183,false),some 192,3,.load 3 (.tmp 191)⟩,⟨true,some (183,false),some 193,4,.binOp .gtr 3 (.tmp 190) (.tmp 192) 3⟩,⟨true,none,some 194,4,.pick (.tmp 183) (.const (.bool true)) (.tmp 193)⟩]) (.cond (.tmp 194) (.seq (.ops [⟨false,none,some 4,3,.assign (.const (.int .i64 0))⟩,⟨false,none,some 5,42,.assign (.const (.slice none 0 0))⟩,⟨false,none,some 6,27,.assign (.const (.slice none 0 0))⟩,⟨false,none,some 7,4,.assign (.const (.bool false))⟩]) (.ret)) (.skip))
noncomputable def mc36_l1_b5:MC:=.seq (.ops [⟨false,none,some 149,3,.move (.tmp 8)⟩,⟨false,none,some 150,0,.fieldAddr 67 (.tmp 15) 4⟩,⟨false,none,some 151,3,.load 3 (.tmp 150)⟩,⟨false,none,some 152,3,.binOp .add 3 (.tmp 149) (.tmp 151) 3⟩,⟨false,none,some 8,3,.assign (.tmp 152)⟩]) (.seq (.ops [⟨true,none,some 153,42,.move (.tmp 9)⟩,⟨true,none,some 154,0,.fieldAddr 67 (.tmp 15) 3⟩,⟨true,none,some 155,3,.load 3 (.tmp 154)⟩,⟨true,none,some 156,0,.indexAddr 42 (.tmp 153) (.tmp 155)⟩,⟨true,none,some 157,3,.load 3 (.tmp 156)⟩,⟨true,none,some 158,0,.fieldAddr 67 (.tmp 15) 4⟩,⟨true,none,some 159,3,.load 3 (.tmp 158)⟩,⟨true,none,some 160,3,.binOp .add 3 (.tmp 157) (.tmp 159) 3⟩,⟨true,none,some 161,0,.indexAddr 42 (.tmp 153) (.tmp 155)⟩,⟨false,none,none,0,.store 3 (.tmp 161) (.tmp 160)⟩]) (.seq (.ops [⟨true,none,some 162,42,.move (.tmp 18)⟩,⟨true,none,some 163,0,.fieldAddr 67 (.tmp 15) 3⟩,⟨true,none,some 164,3,.load 3 (.tmp 163)⟩,⟨true,none,some 165,0,.indexAddr 42 (.tmp 162) (.tmp 164)⟩,⟨true,none,some 166,3,.load 3 (.tmp 165)⟩,⟨true,none,some 167,0,.fieldAddr 67 (.tmp 15) 4⟩,⟨true,none,some 168,3,.load 3 (.tmp 167)⟩,⟨true,none,some 169,3,.binOp .add 3 (.tmp 166) (.tmp 168) 3⟩,⟨true,none,some 170,0,.indexAddr 42 (.tmp 162) (.tmp 164)⟩,⟨false,none,none,0,.store 3 (.tmp 170) (.tmp 169)⟩]) mc36_l1_b6))
noncomputable def mc36_l1_b4:MC:=.seq (.seq (.ops [⟨true,none,some 123,120,.move (.tmp 11)⟩]) (.seq (.ops [⟨true,none,some 124,0,.fieldAddr 67 (.tmp 15) 0⟩]) (.seq (.ops [⟨true,none,some 125,3,.load 3 (.tmp 124)⟩]) (.seq (.ops [⟨true,none,some 126,0,.fieldAddr 67 (.tmp 15) 1⟩]) (.seq (.ops [⟨true,none,some 127,3,.load 3 (.tmp 126)⟩]) (.seq (.ops [⟨true,none,some 128,0,.fieldAddr 67 (.tmp 15) 2⟩]) (.seq (.ops [⟨true,none,some 129,3,.load 3 (.tmp 128)⟩]) (.seq (.ops [⟨true,none,some 130,122,.build 122 #[(0,.tmp 125),(1,.tmp 127),(2,.tmp 129)]⟩]) (.seq (.ops [⟨true,none,some 131,3,.lookup 120 (.tmp 123) (.tmp 130) false⟩]) (.seq (.ops [⟨true,none,some 132,0,.fieldAddr 67 (.tmp 15) 4⟩]) (.seq (.ops [⟨true,none,some 133,3,.load 3 (.tmp 132)⟩]) (.seq (.ops [⟨true,none,some 134,3,.binOp .add 3 (.tmp 131) (.tmp 133) 3⟩]) (.seq (.ops [⟨false,none,some 135,0,.mapEntry 120 (.tmp 123) (.tmp 130)⟩]) (.seq (.ops [⟨true,none,some 136,3,.extract (.tmp 135) 1⟩]) (.seq (.chk [⟨true,none,some 131,3,.lookup 120 (.tmp 123) (.tmp 130) false⟩]) (.seq (.ops [⟨false,none,none,0,.entryStore 120 (.tmp 123) (.tmp 136) (.tmp 134)⟩]) (.chk []))))))))))))))))) (.seq (.seq (.ops [⟨true,none,some 137,121,.move (.tmp 12)⟩]) (.seq (.ops [⟨true,none,some 138,0,.fieldAddr 67 (.tmp 15) 0⟩]) (.seq (.ops [⟨true,none,some 139,3,.load 3 (.tmp 138)⟩]) (.seq (.ops [⟨true,none,some 140,0,.fieldAddr 67 (.tmp 15) 2⟩]) (.seq (.ops [⟨true,none,some 141,3,.load 3 (.tmp 140)⟩]) (.seq (.ops [⟨true,none,some 142,123,.build 123 #[(0,.tmp 139),(1,.tmp 141)]⟩]) (.seq (.ops [⟨true,none,some 143,3,.lookup 121 (.tmp 137) (.tmp 142) false⟩]) (.seq (.ops [⟨true,none,some 144,0,.fieldAddr 67 (.tmp 15) 4⟩]) (.seq (.ops [⟨true,none,some 145,3,.load 3 (.tmp 144)⟩]) (.seq (.ops [⟨true,none,some 146,3,.binOp .add 3 (.tmp 143) (.tmp 145) 3⟩]) (.seq (.ops [⟨false,none,some 147,0,.mapEntry 121 (.tmp 137) (.tmp 142)⟩]) (.seq (.ops [⟨true,none,some 148,3,.extract (.tmp 147) 1⟩]) (.seq (.chk [⟨true,none,some 143,3,.lookup 121 (.tmp 137) (.tmp 142) false⟩]) (.seq (.ops [⟨false,none,none,0,.entryStore 121 (.tmp 137) (.tmp 148) (.tmp 146)⟩]) (.chk []))))))))))))))) mc36_l1_b5)
noncomputable def mc36_l1_b3:MC:=.seq (.seq (.ops [⟨false,none,some 96,0,.fieldAddr 77 (.tmp 16) 0⟩,⟨false,none,some 97,3,.load 3 (.tmp 96)⟩,⟨false,none,some 98,0,.fieldAddr 67 (.tmp 15) 3⟩,⟨false,none,some 99,3,.load 3 (.tmp 98)⟩,⟨false,none,some 100,4,.call ⟨.value (.func 70),#[.tmp 97,.tmp 99],#[3,3]⟩⟩,⟨false,none,some 101,4,.unOp .not 4 (.tmp 100)⟩,⟨false,none,some 102,4,.move (.tmp 101)⟩,⟨false,some (102,false),some 103,0,.fieldAddr 67 (.tmp 15) 1⟩,⟨false,some (102,false),some 104,3,.load 3 (.tmp 103)⟩,⟨false,some (102,false),some 105,0,.fieldAddr 77 (.tmp 16) 1⟩,⟨false,some (102,false),some 106,3,.load 3 (.tmp 105)⟩,⟨false,some (102,false),some 107,0,.fieldAddr 65 (.tmp 17) 0⟩,⟨false,some (102,false),some 108,3,.load 3 (.tmp 107)⟩,⟨false,some (102,false),some 109,3,.call ⟨.builtin .max,#[.tmp 106,.tmp 108],#[3,3]⟩⟩,⟨false,some (102,false),some 110,0,.fieldAddr 77 (.tmp 16) 2⟩,⟨false,some (102,false),some 111,3,.load 3 (.tmp 110)⟩,⟨false,some (102,false),some 112,0,.fieldAddr 65 (.tmp 17) 1⟩,⟨false,some (102,false),some 113,3,.load 3 (.tmp 112)⟩,⟨false,some (102,false),some 114,3,.call ⟨.builtin .min,#[.tmp 111,.tmp 113],#[3,3]⟩⟩,⟨false,some (102,false),some 115,4,.call ⟨.value (.func 38),#[.tmp 104,.tmp 109,.tmp 114],#[3,3,3]⟩⟩,⟨false,some (102,false),some 116,4,.unOp .not 4 (.tmp 115)⟩,⟨false,none,some 117,4,.pick (.tmp 102) (.const (.bool true)) (.tmp 116)⟩]) (.cond (.tmp 117) (.seq (.ops [⟨false,none,some 4,3,.assign (.const (.int .i64 0))⟩,⟨false,none,some 5,42,.assign (.const (.slice none 0 0))⟩,⟨false,none,some 6,27,.assign (.const (.slice none 0 0))⟩,⟨false,none,some 7,4,.assign (.const (.bool false))⟩]) (.ret)) (.skip))) (.seq (.ops [⟨false,none,some 118,27,.move (.tmp 10)⟩,⟨false,none,some 119,0,.fieldAddr 67 (.tmp 15) 0⟩,⟨false,none,some 120,3,.load 3 (.tmp 119)⟩,⟨false,none,some 121,0,.indexAddr 27 (.tmp 118) (.tmp 120)⟩,⟨false,none,some 122,42,.load 42 (.tmp 121)⟩,⟨false,none,some 18,42,.assign (.tmp 122)⟩]) mc36_l1_b4)
noncomputable def mc36_l1_b2:MC:=.seq (.seq (.ops [⟨true,none,some 84,0,.fieldAddr 26 (.tmp 2) 1⟩]) (.seq (.ops [⟨true,none,some 85,23,.load 23 (.tmp 84)⟩]) (.seq (.ops [⟨true,none,some 86,0,.fieldAddr 67 (.tmp 15) 2⟩]) (.seq (.ops [⟨true,none,some 87,3,.load 3 (.tmp 86)⟩]) (.seq (.ops [⟨true,none,some 88,0,.indexAddr 23 (.tmp 85) (.tmp 87)⟩]) (.seq (.ops [⟨true,none,some 89,77,.load 77 (.tmp 88)⟩]) (.seq (.ops [⟨true,none,some 90,0,.fieldAddr 26 (.tmp 2) 0⟩]) (.seq (.ops [⟨true,none,some 91,22,.load 22 (.tmp 90)⟩]) (.seq (.ops [⟨true,none,some 92,0,.fieldAddr 67 (.tmp 15) 3⟩]) (.seq (.ops [⟨true,none,some 93,3,.load 3 (.tmp 92)⟩]) (.seq (.ops [⟨true,none,some 94,0,.indexAddr 22 (.tmp 91) (.tmp 93)⟩]) (.seq (.ops [⟨true,none,some 95,65,.load 65 (.tmp 94)⟩]) (.seq (.ops [⟨true,none,some 16,0,.alloc 77⟩]) (.seq (.ops [⟨true,none,some 17,0,.alloc 65⟩]) (.seq (.chk [⟨true,none,some 95,65,.load 65 (.tmp 94)⟩,⟨true,none,some 93,3,.load 3 (.tmp 92)⟩,⟨true,none,some 91,22,.load 22 (.tmp 90)⟩,⟨true,none,some 89,77,.load 77 (.tmp 88)⟩,⟨true,none,some 87,3,.load 3 (.tmp 86)⟩,⟨true,none,some 85,23,.load 23 (.tmp 84)⟩]) (.seq (.ops [⟨false,none,none,0,.store 77 (.tmp 16) (.tmp 89)⟩]) (.seq (.chk [⟨true,none,some 95,65,.load 65 (.tmp 94)⟩,⟨true,none,some 93,3,.load 3 (.tmp 92)⟩,⟨true,none,some 91,22,.load 22 (.tmp 90)⟩]) (.seq (.ops [⟨false,none,none,0,.store 65 (.tmp 17) (.tmp 95)⟩]) (.chk []))))))))))))))))))) mc36_l1_b3
noncomputable def mc36_l1_b1:MC:=.seq (.seq (.ops [⟨false,none,some 52,0,.fieldAddr 67 (.tmp 15) 0⟩,⟨false,none,some 53,3,.load 3 (.tmp 52)⟩,⟨false,none,some 54,27,.move (.tmp 10)⟩,⟨false,none,some 55,3,.call ⟨.builtin .len,#[.tmp 54],#[27]⟩⟩,⟨false,none,some 56,3,.binOp .sub 3 (.tmp 55) (.const (.int .i64 1)) 3⟩,⟨false,none,some 57,4,.call ⟨.value (.func 38),#[.tmp 53,.const (.int .i64 0),.tmp 56],#[3,3,3]⟩⟩,⟨false,none,some 58,4,.unOp .not 4 (.tmp 57)⟩,⟨false,none,some 59,4,.move (.tmp 58)⟩,⟨false,some (59,false),some 60,0,.fieldAddr 67 (.tmp 15) 3⟩,⟨false,some (59,false),some 61,3,.load 3 (.tmp 60)⟩,⟨false,some (59,false),some 62,42,.move (.tmp 9)⟩,⟨false,some (59,false),some 63,3,.call ⟨.builtin .len,#[.tmp 62],#[42]⟩⟩,⟨false,some (59,false),some 64,3,.binOp .sub 3 (.tmp 63) (.const (.int .i64 1)) 3⟩,⟨false,some (59,false),some 65,4,.call ⟨.value (.func 38),#[.tmp 61,.const (.int .i64 0),.tmp 64],#[3,3,3]⟩⟩,⟨false,some (59,false),some 66,4,.unOp .not 4 (.tmp 65)⟩,⟨false,none,some 67,4,.pick (.tmp 59) (.const (.bool true)) (.tmp 66)⟩,⟨false,none,some 68,4,.move (.tmp 67)⟩,⟨false,some (68,false),some 69,0,.fieldAddr 67 (.tmp 15) 2⟩,⟨false,some (68,false),some 70,3,.load 3 (.tmp 69)⟩,⟨false,some (68,false),some 71,0,.fieldAddr 26 (.tmp 2) 1⟩,⟨false,some (68,false),some 72,23,.load 23 (.tmp 71)⟩,⟨false,some (68,false),some 73,3,.call ⟨.builtin .len,#[.tmp 72],#[23]⟩⟩,⟨false,some (68,false),some 74,3,.binOp .sub 3 (.tmp 73) (.const (.int .i64 1)) 3⟩,⟨false,some (68,false),some 75,4,.call ⟨.value (.func 38),#[.tmp 70,.const (.int .i64 0),.tmp 74],#[3,3,3]⟩⟩,⟨false,some (68,false),some 76,4,.unOp .not 4 (.tmp 75)⟩,⟨false,none,some 77,4,.pick (.tmp 68) (.const (.bool true)) (.tmp 76)⟩,⟨false,none,some 78,4,.move (.tmp 77)⟩,⟨false,some (78,false),some 79,0,.fieldAddr 67 (.tmp 15) 4⟩,⟨false,some (78,false),some 80,3,.load 3 (.tmp 79)⟩,⟨false,some (78,false),some 81,4,.call ⟨.value (.func 38),#[.tmp 80,.const (.int .i64 1),.const (.int .i64 1000)],#[3,3,3]⟩⟩,⟨false,some (78,false),some 82,4,.unOp .not 4 (.tmp 81)⟩,⟨false,none,some 83,4,.pick (.tmp 78) (.const (.bool true)) (.tmp 82)⟩]) (.cond (.tmp 83) (.seq (.ops [⟨false,none,some 4,3,.assign (.const (.int .i64 0))⟩,⟨false,none,some 5,42,.assign (.const (.slice none 0 0))⟩,⟨false,none,some 6,27,.assign (.const (.slice none 0 0))⟩,⟨false,none,some 7,4,.assign (.const (.bool false))⟩]) (.ret)) (.skip))) mc36_l1_b2
theorem mc36_l1_eq:mc36_l1=.seq (.seq (.ops [⟨false,none,some 42,3,.move (.tmp 14)⟩,⟨false,none,some 43,39,.move (.tmp 1)⟩,⟨false,none,some 44,3,.call ⟨.builtin .len,#[.tmp 43],#[39]⟩⟩,⟨false,none,some 45,4,.binOp .lss 3 (.tmp 42) (.tmp 44) 3⟩]) (.cond (.tmp 45) (.skip) (.exit 2))) (.seq (.block 3 (.seq (.ops [⟨false,none,some 48,39,.move (.tmp 1)⟩,⟨false,none,some 49,3,.move (.tmp 14)⟩,⟨false,none,some 50,0,.indexAddr 39 (.tmp 48) (.tmp 49)⟩,⟨false,none,some 51,67,.load 67 (.tmp 50)⟩,⟨false,none,some 15,0,.alloc 67⟩,⟨false,none,none,0,.store 67 (.tmp 15) (.tmp 51)⟩]) mc36_l1_b1)) (.ops [⟨false,none,some 46,3,.move (.tmp 14)⟩,⟨false,none,some 47,3,.binOp .add 3 (.tmp 46) (.const (.int .i64 1)) 3⟩,⟨false,none,some 14,3,.assign (.tmp 47)⟩])):=rfl
theorem map120:mapOf Try.prog 120=some (3,(true,[0,0,0])):=by kernel_rfl
theorem map121:mapOf Try.prog 121=some (3,(true,[0,0])):=by kernel_rfl
structure TS (t:Tm) (pv:Value) (X:Nat) (s:Int) (q V g M kh kd i:Nat):Prop where
 t1:tget t 1=pv
 t2:tget t 2=.pointer (some ⟨X,0,none⟩)
 t8:tget t 8=.int .i64 s
 t9:tget t 9=.slice (some ⟨q,0,none⟩) V V
 t10:tget t 10=.slice (some ⟨g,0,none⟩) M M
 t11:tget t 11=.map (some kh)
 t12:tget t 12=.map (some kd)
 t14:tget t 14=.int .i64 (i:Nat)
structure TR (t:Tm):Prop where
 t4:tget t 4=.int .i64 0
 t5:tget t 5=.slice none 0 0
 t6:tget t 6=.slice none 0 0
 t7:tget t 7=.bool false
section
variable {ov:Ov} {vs:List HVn} {hs:List HHd} {fs:List (List (Int × Int))} {vv hv fv pv:Value} {X q V g M kh kd i:Nat} {s:Int}
theorem part36a (K:Nat) (h38:HasP ov 38 S38.F) (bV:V≤6) (bH:hs.length≤6) (bM:M≤6) (w:AW) (hS:SeaV w vv hv fv vs hs fs) (J:Nat) (j:HJb) (gJ:w.heap.get J=some (.cells (jbC j) 67 false)) (gX:w.heap.get X=some (.cells [vv,hv,fv] 26 false))
  (t:Tm) (T:TS t pv X s q V g M kh kd i) (t15:tget t 15=.pointer (some ⟨J,0,none⟩)) (Q:Ex→Tm→AW→Prop)
  (hbad:∀ t,(jobB V hs.length M j && inMa j)=false→TR t→Q .ret t w)
  (hgood:∀ t,(jobB V hs.length M j && inMa j)=true→TS t pv X s q V g M kh kd i→tget t 15=.pointer (some ⟨J,0,none⟩)→wp (exM Try.prog (run Try.prog ov (K + 1)) mc36_l1_b2 t w) Q):wp (exM Try.prog (run Try.prog ov (K + 1)) mc36_l1_b1 t w) Q:=by
 obtain ⟨t1,t2,t8,t9,t10,t11,t12,t14⟩:=T
 obtain ⟨nv,nh,nf⟩:=hS.nj
 have l23:=fun w2=>len23V (w':=w2) hS.h
 have r:=fun n a b=>S38.call (P:=Try.prog) h38 (m:=K) (w:=w) ⟨n,a,b,rfl,rfl⟩
 have wM:IntKind.wrap .i64 ((M:Int) - 1)=(M:Int) - 1:=wrap64_in (by omega) (by omega)
 have wV:IntKind.wrap .i64 ((V:Int) - 1)=(V:Int) - 1:=wrap64_in (by omega) (by omega)
 have wH:IntKind.wrap .i64 ((hs.length:Int) - 1)=(hs.length:Int) - 1:=wrap64_in (by omega) (by omega)
 have e:(jobB V hs.length M j && inMa j)=(inH 0 j.mo ((M:Int) - 1) && (inH 0 j.vi ((V:Int) - 1) && (inH 0 j.ha ((hs.length:Int) - 1) && inH 1 j.ma 1000))):=by
  rw [Bool.eq_iff_iff]
  simp only [jobB,inMa,inH,Bool.and_eq_true,decide_eq_true_eq]
  omega
 rw [e] at hbad hgood
 obtain ⟨mo,o,ha,vi,ma⟩:=j
 simp only at hbad hgood
 simp only [jbC] at gJ
 have r1:=r mo 0 ((M:Int) - 1)
 have r2:=r vi 0 ((V:Int) - 1)
 have r3:=r ha 0 ((hs.length:Int) - 1)
 have r4:=r ma 1 1000
 cases c1:inH 0 mo ((M:Int) - 1) with
 | false =>
  rw [c1] at r1 hbad
  simp [mc36_l1_b1,t1,t2,t8,t9,t10,t11,t12,t14,t15,gJ,gX,nv,nh,nf,l23,wM,wV,wH,r1]
  exact hbad _ rfl ⟨by simp,by simp,by simp,by simp⟩
 | true =>
  rw [c1] at r1 hbad hgood
  cases c2:inH 0 vi ((V:Int) - 1) with
  | false =>
   rw [c2] at r2 hbad
   simp [mc36_l1_b1,t1,t2,t8,t9,t10,t11,t12,t14,t15,gJ,gX,nv,nh,nf,l23,wM,wV,wH,r1,r2]
   exact hbad _ rfl ⟨by simp,by simp,by simp,by simp⟩
  | true =>
   rw [c2] at r2 hbad hgood
   cases c3:inH 0 ha ((hs.length:Int) - 1) with
   | false =>
    rw [c3] at r3 hbad
    simp [mc36_l1_b1,t1,t2,t8,t9,t10,t11,t12,t14,t15,gJ,gX,nv,nh,nf,l23,wM,wV,wH,r1,r2,r3]
    exact hbad _ rfl ⟨by simp,by simp,by simp,by simp⟩
   | true =>
    rw [c3] at r3 hbad hgood
    cases c4:inH 1 ma 1000 with
    | false =>
     rw [c4] at r4 hbad
     simp [mc36_l1_b1,t1,t2,t8,t9,t10,t11,t12,t14,t15,gJ,gX,nv,nh,nf,l23,wM,wV,wH,r1,r2,r3,r4]
     exact hbad _ rfl ⟨by simp,by simp,by simp,by simp⟩
    | true =>
     rw [c4] at r4 hgood
     simp [mc36_l1_b1,t1,t2,t8,t9,t10,t11,t12,t14,t15,gJ,gX,nv,nh,nf,l23,wM,wV,wH,r1,r2,r3,r4]
     exact hgood _ rfl ⟨by simp [t1],by simp [t2],by simp [t8],by simp [t9],by simp [t10],by simp [t11],by simp [t12],by simp [t14]⟩ (by simp [t15])
set_option maxHeartbeats 1000000 in
theorem part36b (K:Nat) (w:AW) (hle:w.lim≤w.next) (hS:SeaV w vv hv fv vs hs fs) (J:Nat) (m h k:Nat) (o ma:Int) (x:HHd) (v:HVn) (hx:hs[h]?=some x) (hvk:vs[k]?=some v) (gJ:w.heap.get J=some (.cells (jbC ⟨m,o,h,k,ma⟩) 67 false)) (nJ:J < w.next) (gX:w.heap.get X=some (.cells [vv,hv,fv] 26 false)) (nX:X < w.next)
  (t:Tm) (T:TS t pv X s q V g M kh kd i) (t15:tget t 15=.pointer (some ⟨J,0,none⟩)) (Q:Ex→Tm→AW→Prop)
  (hQ:∀ t w' A B,Up w w'→w'.heap.get A=some (.cells (hhC x) 77 false)→w'.heap.get B=some (.cells (vnC v) 65 false)→w.next≤A→A < w'.next→w.next≤B→B < w'.next→TS t pv X s q V g M kh kd i→tget t 15=.pointer (some ⟨J,0,none⟩)→tget t 16=.pointer (some ⟨A,0,none⟩)→tget t 17=.pointer (some ⟨B,0,none⟩)→wp (exM Try.prog (run Try.prog ov (K + 1)) mc36_l1_b3 t w') Q):wp (exM Try.prog (run Try.prog ov (K + 1)) mc36_l1_b2 t w) Q:=by
 obtain ⟨t1,t2,t8,t9,t10,t11,t12,t14⟩:=T
 obtain ⟨nv,nh,nf⟩:=hS.nj
 obtain ⟨p,hia,hld,_,hpb⟩:=getR un22 sz65 vnC_length hS.v rfl hvk
 obtain ⟨r,hib,hle',_,hqb⟩:=getR un23 sz77 hhC_length hS.h rfl hx
 have sv:=same_rows hS.v
 have sh:=same_rows hS.h
 have e1:¬ p.block=w.next + 1:=by omega
 have e2:¬ r.block=w.next + 1:=by omega
 have e0:¬ p.block=w.next:=by omega
 have e0':¬ r.block=w.next:=by omega
 have e3:¬ J=w.next:=by omega
 have e4:¬ J=w.next + 1:=by omega
 have e5:¬ X=w.next:=by omega
 have e6:¬ X=w.next + 1:=by omega
 have g1:w.lim≤w.next + 1:=by omega
 have u:Up w ⟨(((w.heap.put w.next (some (.cells [.int .i64 0,.int .i64 0,.int .i64 0,.int .i64 0,.int .i64 0] 77 false))).put (w.next + 1) (some (.cells [.int .i64 0,.int .i64 0,.int .i64 0] 65 false))).put w.next (some (.cells (hhC x) 77 false))).put (w.next + 1) (some (.cells (vnC v) 65 false)),w.next + 1 + 1,w.lim⟩:=((((Up.refl w).add _).put (Nat.le_succ _) (Nat.le_succ _)).put (Nat.le_refl _) (Nat.le_refl _)).put (Nat.le_succ _) (Nat.le_refl _)
 obtain ⟨a1,a2,a3⟩:=v
 obtain ⟨b0,b1,b2,b3,b4⟩:=x
 simp only [vnC] at hld u
 simp only [hhC] at hle' u
 simp only [jbC] at gJ
 simp [mc36_l1_b2,t2,t15,gJ,gX,nv,nh,nf,hia,hld,hib,hle',e0,e0',e1,e2,e3,e4,e5,e6,g1,hle,smi3,smi5,sv,sh]
 exact hQ _ _ w.next (w.next + 1) u (by simp [hhC]) (by simp [vnC]) (Nat.le_refl _) (by show w.next < w.next + 1 + 1; omega) (Nat.le_succ _) (by show w.next + 1 < w.next + 1 + 1; omega) ⟨by simp [t1],by simp [t2],by simp [t8],by simp [t9],by simp [t10],by simp [t11],by simp [t12],by simp [t14]⟩ (by simp [t15]) (by simp) (by simp)
set_option maxHeartbeats 1000000 in
theorem part36c (K:Nat) (h70:HasP ov 70 S70.F) (h38:HasP ov 38 S38.F) (w:AW) {n0:Nat} {cs:List Nat} {G:List (List Int)} (hG:GrV n0 w V g M cs G) (hcl:cs.length=M) (J A B:Nat) (m h k:Nat) (hm:m < M) (c:Nat) (hc:cs[m]?=some c) (o ma:Int) (x:HHd) (v:HVn) (gJ:w.heap.get J=some (.cells (jbC ⟨m,o,h,k,ma⟩) 67 false)) (gA:w.heap.get A=some (.cells (hhC x) 77 false)) (gB:w.heap.get B=some (.cells (vnC v) 65 false))
  (t:Tm) (T:TS t pv X s q V g M kh kd i) (t15:tget t 15=.pointer (some ⟨J,0,none⟩)) (t16:tget t 16=.pointer (some ⟨A,0,none⟩)) (t17:tget t 17=.pointer (some ⟨B,0,none⟩)) (Q:Ex→Tm→AW→Prop)
  (hbad:∀ t,canH x v o (k:Nat)=false→TR t→Q .ret t w)
  (hQ:∀ t,canH x v o (k:Nat)=true→TS t pv X s q V g M kh kd i→tget t 15=.pointer (some ⟨J,0,none⟩)→tget t 16=.pointer (some ⟨A,0,none⟩)→tget t 18=.slice (some ⟨c,0,none⟩) V V→wp (exM Try.prog (run Try.prog ov (K + 1)) mc36_l1_b4 t w) Q):wp (exM Try.prog (run Try.prog ov (K + 1)) mc36_l1_b3 t w) Q:=by
 obtain ⟨t1,t2,t8,t9,t10,t11,t12,t14⟩:=T
 rw [can_inH] at hbad hQ
 have gg:=hG.gg
 have ac:(cs.map (slV V)++List.replicate (M - cs.length) nilS)[m]?=some (.slice (some ⟨c,0,none⟩) V V):=by
  rw [List.getElem?_append_left (by rw [List.length_map]; omega),List.getElem?_map,hc]; rfl
 obtain ⟨os,hos⟩:∃ os,os=cs.map (slV V)++List.replicate (M - cs.length) nilS:=⟨_,rfl⟩
 rw [← hos] at gg ac
 have i1:=fun w'=>ia27 w' ⟨g,0,none⟩ M M .i64 m hm
 have r70:=S70.call (P:=Try.prog) h70 (m:=K) (w:=w) ⟨x.vs,(k:Nat),rfl,Int.natCast_nonneg k,rfl⟩
 have r38:=S38.call (P:=Try.prog) h38 (m:=K) (w:=w) ⟨o,max x.fr v.fr,min x.to v.to,rfl,rfl⟩
 obtain ⟨a1,a2,a3⟩:=v
 obtain ⟨b0,b1,b2,b3,b4⟩:=x
 simp only [vnC] at gB
 simp only [hhC] at gA
 simp only [jbC] at gJ
 simp only at r70 r38 hbad hQ
 cases k0:bitB b0 (k:Nat) with
 | false =>
  rw [k0] at r70 hbad
  simp [mc36_l1_b3,t10,t15,t16,t17,gJ,gA,gB,r70]
  exact hbad _ rfl ⟨by simp,by simp,by simp,by simp⟩
 | true =>
  rw [k0] at r70 hbad hQ
  cases k1:inH (max b1 a1) o (min b2 a2) with
  | false =>
   rw [k1] at r38 hbad
   simp [mc36_l1_b3,t10,t15,t16,t17,gJ,gA,gB,r70,r38]
   exact hbad _ rfl ⟨by simp,by simp,by simp,by simp⟩
  | true =>
   rw [k1] at r38 hQ
   simp [mc36_l1_b3,t10,t15,t16,t17,gJ,gA,gB,gg,i1,ac,r70,r38]
   exact hQ _ rfl ⟨by simp [t1],by simp [t2],by simp [t8],by simp [t9],by simp [t10],by simp [t11],by simp [t12],by simp [t14]⟩ (by simp [t15]) (by simp [t16]) (by simp)
end
end Go.Proofs.Ytiokkkjahkhbfaa.walk
