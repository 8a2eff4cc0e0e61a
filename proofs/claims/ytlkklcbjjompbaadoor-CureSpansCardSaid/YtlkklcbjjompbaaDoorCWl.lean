/- Part of a proof by a machine of ones own: see the text with the theorem. -/
import Derived.Test.YtlkklcbjjompbaaDoorCWk
import Derived.Test.YtlkklcbjjompbaaDoorCT7
import Derived.Test.YtlkklcbjjompbaaDoorShF
namespace Go.Proofs.YtlkklcbjjompbaaDoor.walk
open Go Go.Sh
set_option maxRecDepth 100000
def lvT (g:Nat→Option (List Int)):Nat→Nat→Option (List Int)
 | 0,_=>none
 | k + 1,i=>match g i with | some r=>some r | none=>lvT g k (i + 1)
def lvO (ok:List Int→Bool) (n:Nat):Nat→Nat→List Int→Option (List Int)
 | 0,_,out=>if ok out=true then some out else none
 | m + 1,f,out=>lvT (fun i=>lvO ok n m (i + 1) (out++[(i:Int)])) (n - f) f
def oddT (ok:List Int→Bool) (n:Nat):Nat→Nat→Option (List Int)
 | 0,_=>none
 | k + 1,m=>match lvO ok n m 0 [] with | some r=>some r | none=>oddT ok n k (m + 1)
def oddF (ok:List Int→Bool) (n:Nat):Option (List Int):=oddT ok n (n + 1) 0
def incF (n:Nat):Nat→List Int→Prop
 | _,[]=>True
 | f,x::l=>∃ i:Nat,x=(i:Int)∧f≤i∧i < n∧incF n (i + 1) l
def lexL:List Int→List Int→Bool
 | [],[]=>false
 | [],_::_=>true
 | _::_,[]=>false
 | a::x,b::y=>if a=b then lexL x y else decide (a < b)
theorem incF.mono {n:Nat}:∀ {l:List Int} {f f':Nat},f'≤f→incF n f l→incF n f' l
 | [],_,_,_,_=>trivial
 | x::l,f,f',h,⟨i,h1,h2,h3,h4⟩=>⟨i,h1,by omega,h3,h4⟩
theorem lvT_none {g:Nat→Option (List Int)}:∀ {k i:Nat},lvT g k i=none→∀ j,i≤j→j < i + k→g j=none
 | 0,i,_,j,h1,h2=>by omega
 | k + 1,i,h,j,h1,h2=>by
  simp only [lvT] at h
  cases hg:g i with
  | some r=>rw [hg] at h; cases h
  | none =>
   rw [hg] at h
   by_cases e:j=i
   ·subst e; exact hg
   ·exact lvT_none h j (by omega) (by omega)
theorem lvT_some {g:Nat→Option (List Int)} {r:List Int}:∀ {k i:Nat},lvT g k i=some r→∃ j,i≤j∧j < i + k∧g j=some r∧∀ j',i≤j'→j' < j→g j'=none
 | 0,i,h=>by simp [lvT] at h
 | k + 1,i,h=>by
  simp only [lvT] at h
  cases hg:g i with
  | some r' =>
   rw [hg] at h
   cases h
   exact ⟨i,Nat.le_refl _,by omega,hg,fun j' h1 h2=>by omega⟩
  | none =>
   rw [hg] at h
   obtain ⟨j,h1,h2,h3,h4⟩:=lvT_some h
   refine ⟨j,by omega,by omega,h3,fun j' h5 h6=>?_⟩
   by_cases e:j'=i
   ·subst e; exact hg
   ·exact h4 j' (by omega) h6
theorem lvO_none {ok:List Int→Bool} {n:Nat}:∀ {m f:Nat} {out:List Int},lvO ok n m f out=none→∀ s,s.length=m→incF n f s→ok (out++s)=false
 | 0,f,out,h,s,hs,_=>by
  have:s=[]:=List.length_eq_zero_iff.1 hs
  subst this
  simp only [lvO] at h
  split at h
  ·cases h
  ·rename_i h1; rw [List.append_nil]; simpa using h1
 | m + 1,f,out,h,[],hs,_=>by simp at hs
 | m + 1,f,out,h,x::s,hs,⟨i,hx,hf,hn,hi⟩=>by
  subst hx
  have:=lvT_none h i hf (by omega)
  have:=lvO_none this s (by simpa using hs) hi
  rwa [List.append_assoc,List.singleton_append] at this
theorem lvO_some {ok:List Int→Bool} {n:Nat}:∀ {m f:Nat} {out r:List Int},lvO ok n m f out=some r→∃ s,r=out++s∧s.length=m∧incF n f s∧ok r=true∧∀ s',s'.length=m→incF n f s'→ok (out++s')=true→lexL s' s=false
 | 0,f,out,r,h=>by
  simp only [lvO] at h
  split at h
  ·rename_i h1
   cases h
   refine ⟨[],by simp,rfl,trivial,h1,fun s' hs _ _=>?_⟩
   rw [List.length_eq_zero_iff.1 hs]; rfl
  ·cases h
 | m + 1,f,out,r,h=>by
  obtain ⟨j,h1,h2,h3,h4⟩:=lvT_some h
  obtain ⟨s,rfl,k1,k2,k3,k4⟩:=lvO_some h3
  refine ⟨(j:Int)::s,by rw [List.append_assoc,List.singleton_append],by simp [k1],⟨j,rfl,h1,by omega,k2⟩,k3,fun s' hs hi ho=>?_⟩
  cases s' with
  | nil=>simp at hs
  | cons x s' =>
   obtain ⟨i,rfl,hf,hn,hi'⟩:=hi
   by_cases e:i=j
   ·subst e
    simp only [lexL,if_true]
    refine k4 s' (by simpa using hs) hi' ?_
    rw [List.append_assoc,List.singleton_append]; exact ho
   ·have hne:¬ (i:Int)=(j:Int):=by omega
    simp only [lexL,if_neg hne,decide_eq_false_iff_not]
    intro hlt
    have hg:=h4 i hf (by omega)
    have:=lvO_none hg s' (by simpa using hs) hi'
    rw [List.append_assoc,List.singleton_append,ho] at this
    cases this
theorem oddT_none {ok:List Int→Bool} {n:Nat}:∀ {k m:Nat},oddT ok n k m=none→∀ j,m≤j→j < m + k→lvO ok n j 0 []=none
 | 0,m,_,j,h1,h2=>by omega
 | k + 1,m,h,j,h1,h2=>by
  simp only [oddT] at h
  cases hg:lvO ok n m 0 [] with
  | some r=>rw [hg] at h; cases h
  | none =>
   rw [hg] at h
   by_cases e:j=m
   ·subst e; exact hg
   ·exact oddT_none h j (by omega) (by omega)
theorem oddT_some {ok:List Int→Bool} {n:Nat} {r:List Int}:∀ {k m:Nat},oddT ok n k m=some r→∃ j,m≤j∧j < m + k∧lvO ok n j 0 []=some r∧∀ j',m≤j'→j' < j→lvO ok n j' 0 []=none
 | 0,m,h=>by simp [oddT] at h
 | k + 1,m,h=>by
  simp only [oddT] at h
  cases hg:lvO ok n m 0 [] with
  | some r' =>
   rw [hg] at h
   cases h
   exact ⟨m,Nat.le_refl _,by omega,hg,fun j' h1 h2=>by omega⟩
  | none =>
   rw [hg] at h
   obtain ⟨j,h1,h2,h3,h4⟩:=oddT_some h
   refine ⟨j,by omega,by omega,h3,fun j' h5 h6=>?_⟩
   by_cases e:j'=m
   ·subst e; exact hg
   ·exact h4 j' (by omega) h6
theorem incF_len {n:Nat}:∀ {s:List Int} {f:Nat},incF n f s→f≤n→s.length + f≤n
 | [],f,_,hf=>by simpa using hf
 | x::s,f,⟨i,_,h2,h3,h4⟩,hf=>by
  have:=incF_len h4 (by omega)
  simp only [List.length_cons]; omega
theorem odd_some {ok:List Int→Bool} {n:Nat} {r:List Int} (h:oddF ok n=some r):incF n 0 r∧ok r=true∧∀ s,incF n 0 s→ok s=true→r.length≤s.length∧(s.length=r.length→lexL s r=false):=by
 obtain ⟨j,_,_,h3,h4⟩:=oddT_some h
 obtain ⟨s,h5,h6,h7,h8,h9⟩:=lvO_some h3
 rw [List.nil_append] at h5
 subst h5
 refine ⟨h7,h8,fun s' hs ho=>⟨?_,fun hl=>h9 s' (by omega) hs (by rwa [List.nil_append])⟩⟩
 apply Classical.byContradiction
 intro hlt
 have:=lvO_none (h4 s'.length (Nat.zero_le _) (by omega)) s' rfl hs
 rw [List.nil_append,ho] at this
 cases this
theorem odd_none {ok:List Int→Bool} {n:Nat} (h:oddF ok n=none) {s:List Int} (hs:incF n 0 s):ok s=false:=by
 have hl:=incF_len hs (Nat.zero_le _)
 have:=lvO_none (oddT_none h s.length (Nat.zero_le _) (by omega)) s rfl hs
 rwa [List.nil_append] at this
def OutV (base:Nat) (w:AW) (uv:Value) (out:List Int):Prop :=
 (uv=.slice none 0 0∧out=[])∨∃ (B:Nat) (cs:List Int),uv=.slice (some ⟨B,0,none⟩) out.length cs.length∧w.heap.get B=some (.cells (cs.flatMap intC) 3 false)∧base≤B∧B < w.next∧out=cs.take out.length
theorem OutV.rows {base:Nat} {w:AW} {uv:Value} {out:List Int} (h:OutV base w uv out):RowsV intC w uv out:=by
 rcases h with ⟨rfl,rfl⟩ | ⟨B,cs,rfl,h2,h3,h4,h5⟩
 ·exact .inl ⟨rfl,_,_,rfl⟩
 ·refine .inr ⟨B,0,none,_,rfl,⟨[],(cs.drop out.length).flatMap intC,3,false,?_,rfl⟩,h4⟩
  rw [h2,List.nil_append]
  congr 2
  conv=>lhs; rw [← List.take_append_drop out.length cs,List.flatMap_append,← h5]
theorem OutV.keep {base:Nat} {w w':AW} {uv:Value} {out:List Int} (h:OutV base w uv out) (k:∀ x,base≤x→x < w.next→w'.heap.get x=w.heap.get x) (hn:w.next≤w'.next):OutV base w' uv out:=by
 rcases h with h | ⟨B,cs,h1,h2,h3,h4,h5⟩
 ·exact .inl h
 ·exact .inr ⟨B,cs,h1,by rw [k B h3 h4,h2],h3,by omega,h5⟩
theorem OutV.ok {base:Nat} {w:AW} {uv:Value} {out:List Int} (h:OutV base w uv out):notJunk uv=some uv:=by
 rcases h with ⟨rfl,_⟩ | ⟨_,_,rfl,_⟩ <;> rfl
structure KpB (base B4:Nat) (we w:AW):Prop where
 old:∀ q,q < base→q ≠ B4→w.heap.get q=we.heap.get q
 next:we.next≤w.next
 lim:w.lim=we.lim
theorem KpB.refl (base B4:Nat) (w:AW):KpB base B4 w w:=⟨fun _ _ _=>rfl,Nat.le_refl _,rfl⟩
theorem KpB.trans {base B4:Nat} {a b c:AW} (h:KpB base B4 a b) (k:KpB base B4 b c):KpB base B4 a c:=⟨fun q h1 h2=>(k.old q h1 h2).trans (h.old q h1 h2),Nat.le_trans h.next k.next,k.lim.trans h.lim⟩
theorem KpB.ofUp {base B4:Nat} {a b:AW} (h:Up a b) (hb:base≤a.next):KpB base B4 a b:=⟨fun q h1 _=>h.at (by omega),h.next,h.lim⟩
end Go.Proofs.YtlkklcbjjompbaaDoor.walk
namespace Go.Proofs.YtlkklcbjjompbaaDoor.walk
open Go Go.Sh
set_option maxRecDepth 100000
set_option linter.unusedSimpArgs false
theorem OutV.push {base:Nat} {w:AW} {uv:Value} {out:List Int} (h:OutV base w uv out) (hl:w.lim≤base) (hb:base≤w.next) (hlen:out.length≤1000) (y:Int) :
  ∃ v' w',append1 Tryd.prog ⟨w.heap.put w.next (some (.cells [.int .i64 y] 3 false)),w.next + 1,w.lim⟩ [28,28] [uv,.slice (some ⟨w.next,0,none⟩) 1 1]=.val v' w'∧OutV base w' v' (out++[y])∧(∀ x,x < base→w'.heap.get x=w.heap.get x)∧w.next≤w'.next∧w'.lim=w.lim:=by
 have hsrc:srcCells ⟨w.heap.put w.next (some (.cells [.int .i64 y] 3 false)),w.next + 1,w.lim⟩ 1 (.slice (some ⟨w.next,0,none⟩) 1 1)=some [.int .i64 y]:=src_row (e':=3) (ro:=false) (k:=1) (by simp) (by simp) (by decide) (by decide)
 rcases h with ⟨rfl,rfl⟩ | ⟨B,cs,rfl,hB,k1,k2,ho⟩
 ·refine ⟨_,_,append_nil list28 elem28 sz3 small3 (m:=1) rfl hsrc (by simp) (by decide) (by decide),.inr ⟨_,[y],rfl,?_,?_,?_,by simp⟩,fun x hx=>?_,?_,rfl⟩
  ·simp [intC]
  ·show base≤w.next + 1; omega
  ·exact Nat.lt_succ_self _
  ·show ((w.heap.put w.next _).put (w.next + 1) _).get x=_
   rw [get_put,if_neg (by omega),get_put,if_neg (by omega)]
  ·show w.next≤w.next + 1 + 1; omega
 ·have hB':(w.heap.put w.next (some (.cells [.int .i64 y] 3 false))).get B=some (.cells (cs.flatMap intC) 3 false):=by rw [get_put,if_neg (by omega)]; exact hB
  have hn:out.length≤cs.length:=by
   have:=congrArg List.length ho
   rw [List.length_take] at this; omega
  have hfl:(cs.flatMap intC).length=cs.length:=by rw [flat_length (m:=1) intC_length]; omega
  by_cases hfull:out.length=cs.length
  ·have hoc:out=cs:=by rw [ho,hfull,List.take_length]
   have e:(Value.slice (some ⟨B,0,none⟩) out.length cs.length)=.slice (some ⟨B,0,none⟩) cs.length cs.length:=by rw [hfull]
   rw [e]
   refine ⟨_,_,append_full list28 elem28 sz3 small3 (n:=cs.length) (m:=1) (c:=cs.flatMap intC) rfl hsrc (by simp) (by simp) (by decide) (by omega) hB' (by rw [hfl]; omega) (by show w.lim≤B; omega),.inr ⟨w.next + 1,cs++[y],?_,?_,?_,?_,?_⟩,fun x hx=>?_,?_,rfl⟩
   ·simp [hoc]
   ·show (((w.heap.put w.next _).put B none).put (w.next + 1) _).get (w.next + 1)=_
    rw [get_put,if_pos rfl]; simp [intC]
   ·show base≤w.next + 1; omega
   ·exact Nat.lt_succ_self _
   ·rw [hoc,List.take_of_length_le (Nat.le_refl _)]
   ·show (((w.heap.put w.next _).put B none).put (w.next + 1) _).get x=_
    rw [get_put,if_neg (by omega),get_put,if_neg (by omega),get_put,if_neg (by omega)]
   ·show w.next≤w.next + 1 + 1; omega
  ·have hlt:out.length < cs.length:=by omega
   have e1:Nat.ble (out.length + 1) 1000000=true:=Nat.ble_eq_true_of_le (by omega)
   have e2:Nat.ble (out.length + 1) cs.length=true:=Nat.ble_eq_true_of_le (by omega)
   refine ⟨_,⟨(w.heap.put w.next (some (.cells [.int .i64 y] 3 false))).put B (some (.cells ((cs.set out.length y).flatMap intC) 3 false)),w.next + 1,w.lim⟩,?_,.inr ⟨B,cs.set out.length y,rfl,?_,k1,?_,?_⟩,fun x hx=>?_,?_,rfl⟩
   ·rw [append_eq list28 elem28 sz3 small3,hsrc]
    have hlB:w.lim≤B:=by omega
    have hs:=flat_set (f:=intC) (m:=1) intC_length cs out.length y hlt
    simp only [Nat.mul_one,intC] at hs
    simp [lenA,e1,appendB,e2,hB',hlB,hfl,hlt,Nat.succ_le_of_lt hlt]
    rw [← hs]
    rfl
   ·show ((w.heap.put w.next _).put B _).get B=_
    rw [get_put,if_pos rfl]
   ·show B < w.next + 1; omega
   ·rw [List.length_append,List.length_singleton]
    conv=>lhs; rw [ho]
    apply List.ext_getElem?
    intro i
    rw [List.getElem?_append,List.getElem?_take,List.length_take,Nat.min_eq_left hn]
    by_cases h1:i < out.length
    ·rw [if_pos h1,if_pos h1,List.getElem?_take,if_pos (by omega),List.getElem?_set,if_neg (by omega)]
    ·by_cases h2:i=out.length
     ·subst h2; simp [hlt]
     ·rw [if_neg h1,List.getElem?_take,if_neg (by omega),List.getElem?_eq_none (by simp; omega)]
   ·show ((w.heap.put w.next _).put B _).get x=_
    rw [get_put,if_neg (by omega),get_put,if_neg (by omega)]
   ·show w.next≤w.next + 1; omega
theorem OutV.cut {base:Nat} {w:AW} {uv:Value} {out:List Int} {y:Int} (h:OutV base w uv (out++[y])) :
  ∃ uv',sliceA Tryd.prog w 28 uv none (some (.int .i64 (out.length:Int))) none=.val uv' w∧OutV base w uv' out:=by
 rcases h with ⟨_,h⟩ | ⟨B,cs,rfl,hB,k1,k2,ho⟩
 ·simp at h
 ·have hn:out.length + 1≤cs.length:=by
   have:=congrArg List.length ho
   simp only [List.length_append,List.length_singleton,List.length_take] at this; omega
  have hb:Nat.ble out.length cs.length=true:=Nat.ble_eq_true_of_le (by omega)
  refine ⟨.slice (some ⟨B,0,none⟩) out.length cs.length,?_,.inr ⟨B,cs,rfl,hB,k1,k2,?_⟩⟩
  ·show sliceA Tryd.prog w 28 (.slice (some ⟨B,0,none⟩) (out++[y]).length cs.length) none (some (.int .i64 (Int.ofNat out.length))) none=_
   simp [sliceA,sliceB1,elem28,sz3,sliceRow,boundA,hb,cutR,cutAddr,rowElem,hB]
  ·have:=congrArg (List.take out.length) ho
   rw [List.take_left,List.take_take,List.length_append,List.length_singleton,Nat.min_eq_left (by omega)] at this
   exact this
theorem OutV.len {base:Nat} {w:AW} {uv:Value} {out:List Int} (h:OutV base w uv out):∃ a c,uv=.slice a out.length c:=h.rows.len
end Go.Proofs.YtlkklcbjjompbaaDoor.walk
namespace Go.Proofs.YtlkklcbjjompbaaDoor.walk
open Go Go.Sh
set_option maxRecDepth 100000
set_option linter.unusedSimpArgs false
def okW (b:CBox) (L:List Sp) (l:List CRead) (out:List Int):Bool:=(weighF b L (woL l out 0)).isSome
structure EnvL (b:CBox) (L:List Sp) (l:List CRead) (pv lv:Value) (B2 B3 B4 B5 base:Nat) (w0 we:AW):Prop where
 u0:Up w0 we
 g2:we.heap.get B2=some (.cells (procC b pv) 97 false)
 g3:we.heap.get B3=some (.cells [lv] 42 false)
 g5:we.heap.get B5=some (.cells [.func (.func 90) ⟨[]⟩ ⟨[.pointer (some ⟨B2,0,none⟩),.pointer (some ⟨B3,0,none⟩),.pointer (some ⟨B4,0,none⟩),.pointer (some ⟨B5,0,none⟩)]⟩] 73 false)
 hb:base≤we.next
theorem EnvL.keep {b:CBox} {L:List Sp} {l:List CRead} {pv lv:Value} {B2 B3 B4 B5 base:Nat} {w0 we w:AW} (h:EnvL b L l pv lv B2 B3 B4 B5 base w0 we) (k:KpB base B4 we w) (d0:w0.next≤B4) (d1:w0.next≤base) (d2:B2 < base∧B2 ≠ B4) (d3:B3 < base∧B3 ≠ B4) (d5:B5 < base∧B5 ≠ B4):EnvL b L l pv lv B2 B3 B4 B5 base w0 w :=
 ⟨⟨fun q hq=>(k.old q (by omega) (by omega)).trans (h.u0.old q hq),Nat.le_trans h.u0.next k.next,k.lim.trans h.u0.lim⟩,(k.old _ d2.1 d2.2).trans h.g2,(k.old _ d3.1 d3.2).trans h.g3,(k.old _ d5.1 d5.2).trans h.g5,Nat.le_trans h.hb k.next⟩
set_option maxHeartbeats 4000000 in
theorem call90 {ov:Ov} (ho:∀ args w,ov 90 args w=none) (ho91:∀ args w,ov 91 args w=none) (h86:HasP ov 86 S86.F) (h105:HasP ov 105 S105.F) (b:CBox) (hb:boxB b=true) (L:List Sp) (hlen:L.length≤14) (hL:LosW (losL L)) (l:List CRead) (hl10:l.length≤10) (hR:ReadOk l) (pv lv:Value) (B2 B3 B4 B5 base:Nat) (w0:AW)
  (d0:w0.next≤B4) (d1:w0.lim≤w0.next) (d2:B2 < base∧B2 ≠ B4) (d3:B3 < base∧B3 ≠ B4) (d4:B4 < base) (d5:B5 < base∧B5 ≠ B4) (hLim:LimW w0) (hpv:ProcV w0 pv L) (hlv:RowsV readC w0 lv l) :
  ∀ (many m:Nat) (fr:Nat) (out:List Int) (uv:Value) (we:AW),fr≤l.length→out.length + many≤20→EnvL b L l pv lv B2 B3 B4 B5 base w0 we→we.heap.get B4=some (.cells [uv] 28 false)→OutV base we uv out →
  ∃ v w',(run Tryd.prog ov (m + many + 3)).call 90 [.int .i64 (many:Nat),.int .i64 (fr:Nat),.pointer (some ⟨B2,0,none⟩),.pointer (some ⟨B3,0,none⟩),.pointer (some ⟨B4,0,none⟩),.pointer (some ⟨B5,0,none⟩)] we .none=.ok (.ret v) w' .none ∧
   v=.bool (lvO (okW b L l) l.length many fr out).isSome∧KpB base B4 we w'∧∃ uv',w'.heap.get B4=some (.cells [uv'] 28 false)∧OutV base w' uv' ((lvO (okW b L l) l.length many fr out).getD out)
 | 0,m,fr,out,uv,we,hfr,hsz,hE,g4,hO=>by
  have hnb:=hE.hb
  have hu:=hE.u0.lim
  have hun:=hE.u0.next
  obtain ⟨v,w',hc,hv,hup⟩:=call90z (ov:=ov) m ho ho91 h86 h105 b hb L hlen hL l hl10 hR out (by omega) (fr:Nat) pv lv uv B2 B3 B4 B5 we (by omega) (hLim.up hE.u0) (hpv.up hE.u0) (hlv.up hE.u0) hO.rows hE.g2 hE.g3 g4 (by omega) (by omega) (by omega)
  have hkp:=KpB.ofUp (base:=base) (B4:=B4) hup hnb
  have hO':=hO.keep (w':=w') (fun x _ hx=>hup.at hx) hup.next
  refine ⟨v,w',hc,?_,hkp,uv,(hup.at (by omega)).trans g4,?_⟩
  ·rw [hv]
   show _=Value.bool (if okW b L l out=true then some out else none).isSome
   unfold okW
   cases (weighF b L (woL l out 0)).isSome <;> rfl
  ·show OutV base w' uv ((if okW b L l out=true then some out else none).getD out)
   split <;> exact hO'
 | many + 1,m,fr,out,uv,we,hfr,hsz,hE,g4,hO=>by
  have ih:=call90 ho ho91 h86 h105 b hb L hlen hL l hl10 hR pv lv B2 B3 B4 B5 base w0 d0 d1 d2 d3 d4 d5 hLim hpv hlv many m
  obtain ⟨g,hg⟩:∃ g,g=fun i:Nat=>lvO (okW b L l) l.length many (i + 1) (out++[(i:Int)]):=⟨_,rfl⟩
  have hsp:lvO (okW b L l) l.length (many + 1) fr out=lvT g (l.length - fr) fr:=by rw [hg]; rfl
  rw [hsp]
  have hcall:(run Tryd.prog ov (m + (many + 1) + 3))=run Tryd.prog ov ((m + many + 3) + 1):=rfl
  rw [hcall]
  refine call_wpY text90 (by simp) (ho _ _) ?_
  have hmc:((many + 1:Nat):Int) ≠ 0:=by omega
  have hmf:decide (((many + 1:Nat):Int)=0)=false:=decide_eq_false hmc
  have hl42:=fun w2=>len42V (w':=w2) hlv
  obtain ⟨K,hK⟩:∃ K:Int,K=((many + 1:Nat):Int):=⟨_,rfl⟩
  have hK0:¬ K=0:=by omega
  have hK1:IntKind.wrap .i64 (K - 1)=(many:Nat):=by rw [hK]; rw [wrap64_in (by omega) (by omega)]; omega
  rw [← hK]
  simp [mc90,hK0]
  refine wp_seqX (wp_blockX (wp_roundsY (fun j t w'=>KpB base B4 we w'∧(∃ uvj,w'.heap.get B4=some (.cells [uvj] 28 false)∧OutV base w' uvj out)∧tget t 0=.int .i64 K∧tget t 3=.pointer (some ⟨B3,0,none⟩)∧tget t 4=.pointer (some ⟨B4,0,none⟩)∧tget t 5=.pointer (some ⟨B5,0,none⟩)∧tget t 11=.int .i64 ((fr + j:Nat):Int)∧fr + j≤l.length∧lvT g (l.length - fr) fr=lvT g (l.length - (fr + j)) (fr + j)) 20 (by decide) ⟨KpB.refl _ _ _,⟨uv,g4,hO⟩,by simp,by simp,by simp,by simp,by simp,by simpa using hfr,by simp⟩ ?_))
  rintro j t w' ⟨hkp,⟨uvj,g4j,hOj⟩,t0,t3,t4,t5,t11,hj,hlvj⟩
  have hEj:=hE.keep hkp d0 (by omega) d2 d3 d5
  have hnb:=hEj.hb
  have hul:=hEj.u0.lim
  have hun:=hEj.u0.next
  have g3j:=hEj.g3
  obtain ⟨i,hi⟩:∃ i:Nat,i=fr + j:=⟨_,rfl⟩
  rw [← hi] at t11 hj hlvj
  by_cases hlt:i < l.length
  ·obtain ⟨I,hI⟩:∃ I:Int,I=(i:Int):=⟨_,rfl⟩
   have hIl:I < (l.length:Int):=by omega
   obtain ⟨I1,hI1'⟩:∃ I1:Int,I1=((i + 1:Nat):Int):=⟨_,rfl⟩
   have hI1:IntKind.wrap .i64 (I + 1)=I1:=by rw [hI,wrap64_in (by omega) (by omega)]; omega
   rw [← hI] at t11
   obtain ⟨v1,w1,ha,hO1,hk1,hn1,hl1⟩:=hOj.push (by omega) hnb (by omega) I
   obtain ⟨pu,qu,rfl⟩:=hOj.len
   obtain ⟨p1,q1,rfl⟩:=hO1.len
   rw [List.length_append,List.length_singleton] at ha hO1
   have g41:w1.heap.get B4=some (.cells [.slice pu out.length qu] 28 false):=(hk1 B4 d4).trans g4j
   have hlB:w1.lim≤B4:=by omega
   obtain ⟨w2,hw2⟩:∃ w2:AW,w2=⟨w1.heap.put B4 (some (.cells [.slice p1 (out.length + 1) q1] 28 false)),w1.next,w1.lim⟩:=⟨_,rfl⟩
   have hkp2:KpB base B4 w' w2:=by
    rw [hw2]
    exact ⟨fun q h1 h2=>by show (w1.heap.put B4 _).get q=_; rw [get_put,if_neg (by omega)]; exact hk1 q h1,hn1,hl1⟩
   have hE2:=hEj.keep hkp2 d0 (by omega) d2 d3 d5
   have g42:w2.heap.get B4=some (.cells [.slice p1 (out.length + 1) q1] 28 false):=by rw [hw2]; simp
   have hO2:OutV base w2 (.slice p1 (out.length + 1) q1) (out++[I]):=hO1.keep (w':=w2) (fun x hx _=>by rw [hw2]; show (w1.heap.put B4 _).get x=_; rw [get_put,if_neg (by omega)]) (by rw [hw2]; exact Nat.le_refl _)
   obtain ⟨v3,w3,hc,hv3,hkp3,uv3,g43,hO3⟩:=ih (i + 1) (out++[I]) _ w2 (by omega) (by rw [List.length_append,List.length_singleton]; omega) hE2 g42 hO2
   have g52:=hE2.g5
   have hkp03:=(hkp.trans hkp2).trans hkp3
   have hgi:lvO (okW b L l) l.length many (i + 1) (out++[I])=g i:=by rw [hg,hI]
   rw [hgi] at hv3 hO3
   subst hv3
   have hstep:lvT g (l.length - i) i=match g i with | some r=>some r | none=>lvT g (l.length - (i + 1)) (i + 1):=by
    rw [show l.length - i=(l.length - (i + 1)) + 1 by omega]; rfl
   rw [← hI1'] at hc
   rw [hw2] at hc g52
   simp only at g52
   cases hgv:g i with
   | some r =>
    rw [hgv] at hc hO3 hstep
    simp only [Option.isSome_some,Option.getD_some] at hc hO3
    have hres:lvT g (l.length - fr) fr=some r:=by rw [hlvj,hstep]
    simp [mc90_l0,t0,t3,t4,t5,t11,g3j,hl42,hIl,g4j,ha,g41,hlB,g52,callV_func,hK1,hI1,hc,tupV]
    rw [hres]
    exact ⟨rfl,hkp03,uv3,g43,hO3⟩
   | none =>
    rw [hgv] at hc hO3 hstep
    simp only [Option.isSome_none,Option.getD_none] at hc hO3
    obtain ⟨uv4,hcut,hO4⟩:=hO3.cut
    obtain ⟨p3,q3,rfl⟩:=hO3.len
    obtain ⟨p4,q4,rfl⟩:=hO4.len
    rw [List.length_append,List.length_singleton] at hcut g43
    have hlB3:w3.lim≤B4:=by have:=hkp3.lim; have:=hkp2.lim; omega
    have hwl:IntKind.wrap .i64 (out.length:Int)=(out.length:Int):=wrap64_in (by omega) (by omega)
    simp [mc90_l0,t0,t3,t4,t5,t11,g3j,hl42,hIl,g4j,ha,g41,hlB,g52,callV_func,hK1,hI1,hc,g43,hwl,hcut,hlB3]
    refine ⟨by omega,⟨fun q h1 h2=>?_,hkp03.next,hkp03.lim⟩,?_,by omega,by omega,by rw [hlvj,hstep,hi]; rfl⟩
    ·show (w3.heap.put B4 _).get q=_
     rw [get_put,if_neg (by omega)]
     exact hkp03.old q h1 h2
    ·exact hO4.keep (w':=⟨w3.heap.put B4 (some (.cells [.slice p4 out.length q4] 28 false)),w3.next,w3.lim⟩) (fun x hx _=>by show (w3.heap.put B4 _).get x=_; rw [get_put,if_neg (by omega)]) (Nat.le_refl _)
  ·have hil:i=l.length:=by omega
   have hres:lvT g (l.length - fr) fr=none:=by rw [hlvj,hil,Nat.sub_self]; rfl
   rw [hil] at t11
   simp [mc90_l0,t11,t3,g3j,hl42,tupV]
   rw [hres]
   exact ⟨rfl,hkp,uvj,g4j,hOj⟩
end Go.Proofs.YtlkklcbjjompbaaDoor.walk
namespace Go.Proofs.YtlkklcbjjompbaaDoor.walk
open Go Go.Sh
set_option maxRecDepth 100000
set_option linter.unusedSimpArgs false
set_option maxHeartbeats 4000000 in
theorem call69 {ov:Ov} (m:Nat) (ho:∀ args w,ov 69 args w=none) (ho90:∀ args w,ov 90 args w=none) (ho91:∀ args w,ov 91 args w=none) (h86:HasP ov 86 S86.F) (h105:HasP ov 105 S105.F) (b:CBox) (hb:boxB b=true) (L:List Sp) (hlen:L.length≤14) (hL:LosW (losL L)) (l:List CRead) (hl10:l.length≤10) (hR:ReadOk l) (pv lv:Value) (we:AW) (hlim:we.lim≤we.next) (hLim:LimW we) (hpv:ProcV we pv L) (hlv:RowsV readC we lv l) :
  ∃ v w',(run Tryd.prog ov (m + 14)).call 69 [.agg ⟨procC b pv⟩,lv] we .none=.ok (.ret v) w' .none∧(match oddF (okW b L l) l.length with | some r=>∃ rv,v=.tuple ⟨[rv,.bool true]⟩∧RowsV intC w' rv r∧notJunk rv=some rv | none=>v=.tuple ⟨[.slice none 0 0,.bool false]⟩)∧Up we w':=by
 refine call_wpY text69 (by simp) (ho _ _) ?_
 obtain ⟨p2,q2,rfl⟩:=hlv.len
 have hl42:=fun w2=>len42V (w':=w2) hlv
 obtain ⟨w1,hw1e⟩:∃ w1:AW,w1=⟨((((we.heap.put we.next (some (.cells (procC b pv) 97 false))).put (we.next + 1) (some (.cells [.slice p2 l.length q2] 42 false))).put (we.next + 1 + 1) (some (.cells [.slice none 0 0] 28 false))).put (we.next + 1 + 1 + 1) (some (.cells [.nilFunc] 73 false))).put (we.next + 1 + 1 + 1) (some (.cells [.func (.func 90) ⟨[]⟩ ⟨[.pointer (some ⟨we.next,0,none⟩),.pointer (some ⟨we.next + 1,0,none⟩),.pointer (some ⟨we.next + 1 + 1,0,none⟩),.pointer (some ⟨we.next + 1 + 1 + 1,0,none⟩)]⟩] 73 false)),we.next + 1 + 1 + 1 + 1,we.lim⟩:=⟨_,rfl⟩
 have u1:Up we w1:=by rw [hw1e]; exact (((((Up.refl we).add _).put (Nat.le_succ _) (Nat.le_succ _)).put (by show we.next≤we.next + 1 + 1; omega) (Nat.le_succ _)).put (by show we.next≤we.next + 1 + 1 + 1; omega) (Nat.le_succ _)).put (by show we.next≤we.next + 1 + 1 + 1; omega) (Nat.le_refl _)
 have m1:w1.next=we.next + 1 + 1 + 1 + 1:=by rw [hw1e]
 have l1:=u1.lim
 have hE1:EnvL b L l pv (.slice p2 l.length q2) we.next (we.next + 1) (we.next + 1 + 1) (we.next + 1 + 1 + 1) (we.next + 1 + 1 + 1 + 1) we w1:=⟨u1,by rw [hw1e]; simp,by rw [hw1e]; simp,by rw [hw1e]; simp,by omega⟩
 have g41:w1.heap.get (we.next + 1 + 1)=some (.cells [.slice none 0 0] 28 false):=by rw [hw1e]; simp
 have hO1:OutV (we.next + 1 + 1 + 1 + 1) w1 (.slice none 0 0) []:=.inl ⟨rfl,rfl⟩
 have cl:=call90 (ov:=ov) ho90 ho91 h86 h105 b hb L hlen hL l hl10 hR pv (.slice p2 l.length q2) we.next (we.next + 1) (we.next + 1 + 1) (we.next + 1 + 1 + 1) (we.next + 1 + 1 + 1 + 1) we (by omega) hlim (by omega) (by omega) (by omega) (by omega) hLim hpv hlv
 obtain ⟨N,hN⟩:∃ N:Int,N=(l.length:Int) + 1:=⟨_,rfl⟩
 have hw2:IntKind.wrap .i64 ((l.length:Int) + 1)=N:=by rw [hN]; exact wrap64_in (by omega) (by omega)
 have lw:we.lim≤we.next + 1 + 1 + 1:=by omega
 have hcf:∀ f a b,cellsOf (.func f a b)=[.func f a b]:=fun _ _ _=>rfl
 have hcs:∀ f a b,singles [.func f a b]=true:=fun _ _ _=>rfl
 have nj0:notJunk (.slice none 0 0)=some (.slice none 0 0):=rfl
 simp [mc69,cellsOf_agg,hl42,lw,hw2,hcf,hcs]
 rw [← hw1e]
 obtain ⟨ok,hok⟩:∃ ok,ok=okW b L l:=⟨_,rfl⟩
 rw [← hok] at cl ⊢
 refine wp_seqX (wp_blockX (wp_roundsY (fun i t w'=>KpB (we.next + 1 + 1 + 1 + 1) (we.next + 1 + 1) w1 w'∧(∃ uv,w'.heap.get (we.next + 1 + 1)=some (.cells [uv] 28 false)∧OutV (we.next + 1 + 1 + 1 + 1) w' uv [])∧tget t 6=.pointer (some ⟨we.next + 1 + 1,0,none⟩)∧tget t 7=.pointer (some ⟨we.next + 1 + 1 + 1,0,none⟩)∧tget t 12=.int .i64 N∧tget t 13=.int .i64 ((i:Nat):Int)∧i≤l.length + 1∧oddF ok l.length=oddT ok l.length (l.length + 1 - i) i) 20 (by decide) ⟨KpB.refl _ _ _,⟨_,g41,hO1⟩,by simp,by simp,by simp,by simp,by omega,rfl⟩ ?_))
 rintro i t w' ⟨hkp,⟨uv,g4,hO⟩,t6,t7,t12,t13,hi,hodd⟩
 have hE:=hE1.keep hkp (by omega) (by omega) (by omega) (by omega) (by omega)
 have hup:=hE.u0
 by_cases hlt:i < l.length + 1
 ·obtain ⟨v,w2,hc,hv,hkp2,uv2,g42,hO2⟩:=cl i (m + (10 - i)) 0 [] uv w' (by omega) (by simp; omega) hE g4 hO
  rw [show m + (10 - i) + i + 3=m + 13 by omega,show ((0:Nat):Int)=0 from rfl] at hc
  subst hv
  obtain ⟨I,hI⟩:∃ I:Int,I=(i:Int):=⟨_,rfl⟩
  rw [← hI] at t13 hc
  have hIN:I < N:=by omega
  have g5:=hE.g5
  have hstep:oddT ok l.length (l.length + 1 - i) i=match lvO ok l.length i 0 [] with | some r=>some r | none=>oddT ok l.length (l.length + 1 - (i + 1)) (i + 1):=by
   rw [show l.length + 1 - i=(l.length + 1 - (i + 1)) + 1 by omega]; rfl
  have hup2:Up we w2:=(hE.keep hkp2 (by omega) (by omega) (by omega) (by omega) (by omega)).u0
  cases hg:lvO ok l.length i 0 [] with
  | some r =>
   rw [hg] at hc hO2 hstep
   simp only [Option.isSome_some,Option.getD_some] at hc hO2
   have nj:=hO2.ok
   obtain ⟨pa,qa,rfl⟩:=hO2.len
   simp [mc69_l0,t6,t7,t12,t13,hIN,g5,callV_func,hc,g42,nj,tupV]
   rw [hodd,hstep]
   exact ⟨hO2.rows,hup2⟩
  | none =>
   rw [hg] at hc hO2 hstep
   simp only [Option.isSome_none,Option.getD_none] at hc hO2
   have hI1:IntKind.wrap .i64 (I + 1)=(i:Int) + 1:=by rw [hI,wrap64_in (by omega) (by omega)]
   simp [mc69_l0,t6,t7,t12,t13,hIN,g5,callV_func,hc,hI1]
   exact ⟨by omega,hkp.trans hkp2,⟨_,g42,hO2⟩,by omega,by rw [hodd,hstep,show l.length + 1 - (i + 1)=l.length - i by omega]⟩
 ·have hi':i=l.length + 1:=by omega
  have hz:oddF ok l.length=none:=by rw [hodd,hi',Nat.sub_self]; rfl
  have hIN:¬ ((i:Nat):Int) < N:=by omega
  simp [mc69_l0,t12,t13,hIN,nj0,tupV]
  rw [hz]
  exact ⟨trivial,hup⟩
def oddE (r:List CAct) (d:List CDay) (b:CBox) (acts:List Int) (l:List CRead):Int:=if rdE r d b acts l=0 then (match oddF (okW b (lossL r acts) l) l.length with | some _=>0 | none=>65) else rdE r d b acts l
set_option maxHeartbeats 2000000 in
theorem call27 {ov:Ov} (m:Nat) (ho:∀ args w,ov 27 args w=none) (ho57:∀ args w,ov 57 args w=none) (ho69:∀ args w,ov 69 args w=none) (ho90:∀ args w,ov 90 args w=none) (ho91:∀ args w,ov 91 args w=none) (h68:HasP ov 68 S68.F) (h86:HasP ov 86 S86.F) (h105:HasP ov 105 S105.F) (r:List CAct) (d:List CDay) (b:CBox) (acts:List Int) (l:List CRead) (rv dv av lv:Value) (we:AW) (hlim:we.lim≤we.next) (hL:LimW we) (hrv:RowsV actC we rv r) (hdv:RowsV cdayC we dv d) (hav:RowsV intC we av acts) (hlv:RowsV readC we lv l) :
  ∃ v w',(run Tryd.prog ov (m + 15)).call 27 [rv,dv,.agg ⟨boxC b⟩,av,lv] we .none=.ok (.ret v) w' .none∧(∃ v1,v=.tuple ⟨[v1,.int .i64 (oddE r d b acts l)]⟩∧(oddE r d b acts l ≠ 0→v1=.slice none 0 0)∧(oddE r d b acts l=0→∃ o,oddF (okW b (lossL r acts) l) l.length=some o∧RowsV intC w' v1 o))∧Up we w':=by
 refine call_wp text27 (by simp) (ho _ _) ?_
 obtain ⟨w1,hw1e⟩:∃ w1:AW,w1=⟨we.heap.put we.next (some (.cells [.int .i64 b.wl,.int .i64 b.wh,.int .i64 b.sl,.int .i64 b.sh] 27 false)),we.next + 1,we.lim⟩:=⟨_,rfl⟩
 have u1:Up we w1:=by rw [hw1e]; exact (Up.refl we).add _
 have m1:w1.next=we.next + 1:=by rw [hw1e]
 have l1:=u1.lim
 have r68:=S68.call (P:=Tryd.prog) h68 (m:=m + 13) (w:=w1) ⟨rv,dv,av,lv,r,d,b,acts,l,rfl,hrv.up u1,hdv.up u1,hav.up u1,hlv.up u1,hL.up u1,by omega,rfl⟩
 have nj:notJunk (.slice none 0 0)=some (.slice none 0 0):=rfl
 by_cases hrd:rdE r d b acts l=0
 case neg =>
  have hE:oddE r d b acts l=rdE r d b acts l:=by unfold oddE; rw [if_neg hrd]
  rw [hE]
  rw [hw1e] at r68
  simp only [boxC] at r68 ⊢
  simp [mc27,cellsOf_agg,r68,hrd,nj,tupV]
  rw [← hw1e]
  exact u1
 have hA:actE r d b acts=0:=by
  unfold rdE at hrd
  by_cases h:actE r d b acts=0
  ·exact h
  ·rw [if_neg h] at hrd; exact absurd hrd h
 have hRd:rdsB (acts.length:Nat) l=true:=by
  unfold rdE at hrd
  rw [if_pos hA] at hrd
  by_cases h:rdsB (acts.length:Nat) l=true
  ·exact h
  ·rw [if_neg h] at hrd; cases hrd
 obtain ⟨_,h14,hact⟩:=tru_ok hA
 have hLl:(lossL r acts).length=acts.length:=lossL_length r acts
 have hb:=(act_ofE hA).2.2.1
 have hlos:=los_ok hA
 obtain ⟨hl10,hRok⟩:=rds_ok hRd
 have g1:w1.heap.get we.next=some (.cells [.int .i64 b.wl,.int .i64 b.wh,.int .i64 b.sl,.int .i64 b.sh] 27 false):=by rw [hw1e]; simp
 obtain ⟨v57,w2,c57,pv,rfl,hpv,u2⟩:=call57 (ov:=ov) (m + 13) ho57 r acts hact h14 b rv av w1 (by omega) (hrv.up u1) (hav.up u1)
 have u02:=u1.trans u2
 have hn2:=u2.next
 have hm2:=u02.lim
 obtain ⟨v69,w3,c69,hres,u3⟩:=call69 (ov:=ov) m ho69 ho90 ho91 h86 h105 b hb (lossL r acts) (by omega) hlos l hl10 hRok pv lv w2 (by omega) (hL.up u02) hpv (hlv.up u02)
 rw [hrd,hw1e] at r68
 rw [hw1e] at c57
 simp only [boxC] at r68 c57 ⊢
 unfold oddE
 rw [if_pos hrd]
 cases hod:oddF (okW b (lossL r acts) l) l.length with
 | some o =>
  rw [hod] at hres
  obtain ⟨ov',rfl,hrow,nj'⟩:=hres
  obtain ⟨pa,qa,rfl⟩:=hrow.len
  simp [mc27,cellsOf_agg,r68,c57,c69,nj',tupV]
  exact ⟨hrow,u02.trans u3⟩
 | none =>
  rw [hod] at hres
  subst hres
  simp [mc27,cellsOf_agg,r68,c57,c69,nj,tupV]
  exact u02.trans u3
end Go.Proofs.YtlkklcbjjompbaaDoor.walk
namespace Go.Proofs.YtlkklcbjjompbaaDoor.walk
open Go Go.Sh
set_option maxRecDepth 100000
set_option linter.unusedSimpArgs false
theorem incF_at {n:Nat}:∀ {L:List Int} {f i:Nat} {z:Int},incF n f L→L[i]?=some z→(f:Int)≤z∧z < (n:Int)
 | x::L,f,0,z,⟨k,h1,h2,h3,_⟩,h=>by
  have:x=z:=by simpa using h
  omega
 | x::L,f,i + 1,z,⟨k,h1,h2,h3,h4⟩,h=>by
  have:=incF_at h4 (i:=i) (by simpa using h)
  omega
 | [],_,_,_,_,h=>by simp at h
theorem lexL_eq:∀ {a b:List Int} {i:Nat},a.take i=b.take i→i≤a.length→i≤b.length→lexL a b=lexL (a.drop i) (b.drop i)
 | a,b,0,_,_,_=>rfl
 | [],b,i + 1,_,h,_=>by simp at h
 | a,[],i + 1,_,_,h=>by simp at h
 | x::a,y::b,i + 1,h,h1,h2=>by
  simp only [List.take_succ_cons,List.cons.injEq] at h
  obtain ⟨rfl,h⟩:=h
  simp only [lexL,if_true,List.drop_succ_cons]
  exact lexL_eq h (by simpa using h1) (by simpa using h2)
def S43:PSpec where
 R args w v:=∃ (av bv:Value) (a b:List Int),args=[av,bv]∧RowsV intC w av a∧RowsV intC w bv b∧a.length≤1000∧b.length≤1000∧v=.bool (lexL a b)
 uniq:=by
  rintro _ _ _ _ ⟨_,_,a,b,rfl,h1,h2,_,_,rfl⟩ ⟨_,_,a',b',h,k1,k2,_,_,rfl⟩
  cases h
  rw [h1.uniq (m:=1) intC_length intC_inj k1,h2.uniq (m:=1) intC_length intC_inj k2]
 shut h:=h
theorem run43 {ov:Ov} (ho:∀ args w,ov 43 args w=none) (av bv:Value) (a b:List Int) (w:AW) (hav:RowsV intC w av a) (hbv:RowsV intC w bv b) (hal:a.length≤1000) (_:b.length≤1000):∃ y w',(run Tryd.prog ov 2).call 43 [av,bv] w .none=.ok (.ret y) w' .none∧y=.bool (lexL a b):=by
 refine call_wp text43 (by simp) (ho _ _) ?_
 have hl:=fun w2=>len28V (w':=w2) hav
 have hk:=fun w2=>len28V (w':=w2) hbv
 simp [mc43]
 refine wp_seqX (wp_blockX (wp_rounds (fun i t w'=>w'=w∧tget t 0=av∧tget t 1=bv∧tget t 5=.int .i64 (i:Nat)∧i≤a.length∧i≤b.length∧a.take i=b.take i) 2000 (by decide) ⟨rfl,by simp,by simp,by simp,Nat.zero_le _,Nat.zero_le _,by simp⟩ ?_))
 rintro i t w' ⟨rfl,t0,t1,t5,hi,hj,he⟩
 have hlex:=lexL_eq he hi hj
 by_cases hlt:i < a.length∧i < b.length
 ·obtain ⟨h1,h2⟩:=hlt
  obtain ⟨x,hx⟩:∃ p,a[i]?=some p:=⟨_,List.getElem?_eq_getElem h1⟩
  obtain ⟨y,hy⟩:∃ p,b[i]?=some p:=⟨_,List.getElem?_eq_getElem h2⟩
  obtain ⟨bb,off,sq,c,rfl,hra⟩:=hav.at_ i h1
  obtain ⟨bb2,off2,sq2,c2,rfl,hrb⟩:=hbv.at_ i h2
  have hld:=hra.int hx
  have hlb:=hrb.int hy
  have hia:=fun w=>ia28 w ⟨bb,off,sq⟩ a.length c .i64 i h1
  have hib:=fun w=>ia28 w ⟨bb2,off2,sq2⟩ b.length c2 .i64 i h2
  simp only [Nat.mul_one] at hia hib
  have hw1:IntKind.wrap .i64 ((i:Int) + 1)=(i:Int) + 1:=wrap64_in (by omega) (by omega)
  have hmin:(i:Int) < min (a.length:Int) (b.length:Int):=by omega
  have hda:a.drop i=x::a.drop (i + 1):=by rw [List.drop_eq_getElem_cons h1]; congr 1; rw [List.getElem?_eq_getElem h1] at hx; simpa using hx
  have hdb:b.drop i=y::b.drop (i + 1):=by rw [List.drop_eq_getElem_cons h2]; congr 1; rw [List.getElem?_eq_getElem h2] at hy; simpa using hy
  rw [hda,hdb] at hlex
  by_cases e:x=y
  ·subst e
   simp [mc43_l0,t0,t1,t5,hl,hk,hmin,hia,hib,hld,hlb,hw1]
   exact ⟨by omega,h1,h2,by rw [take_snoc hx,take_snoc hy,he]⟩
  ·rw [show lexL (x::a.drop (i + 1)) (y::b.drop (i + 1))=decide (x < y) by simp [lexL,e]] at hlex
   simp [mc43_l0,t0,t1,t5,hl,hk,hmin,hia,hib,hld,hlb,e,tupV,hlex]
 ·have hmin:¬ (i:Int) < min (a.length:Int) (b.length:Int):=by omega
  have hend:lexL a b=decide (a.length < b.length):=by
   rw [hlex]
   by_cases h1:i < a.length
   ·have:i=b.length:=by omega
    subst this
    rw [List.drop_length,List.drop_eq_getElem_cons h1]
    simp [lexL]; omega
   ·have:i=a.length:=by omega
    subst this
    rw [List.drop_length]
    by_cases h2:a.length < b.length
    ·rw [List.drop_eq_getElem_cons h2]; simp [lexL,h2]
    ·rw [List.drop_eq_nil_of_le (by omega)]; simp [lexL]; omega
  simp [mc43_l0,t0,t1,t5,hl,hk,hmin,tupV,hend]
end Go.Proofs.YtlkklcbjjompbaaDoor.walk
namespace Go.Proofs.YtlkklcbjjompbaaDoor.walk
open Go Go.Sh
set_option maxRecDepth 100000
set_option linter.unusedSimpArgs false
def othL (s:Int) (n:Nat):List Int:=((List.range n).filter fun k=>bitB s (k:Nat)).map fun (k:Nat)=>(k:Int)
theorem othL_mem {s:Int} {n k:Nat}:(k:Int) ∈ othL s n ↔ k < n∧bitB s k=true:=by
 unfold othL
 simp only [List.mem_map,List.mem_filter,List.mem_range]
 constructor
 ·rintro ⟨a,⟨h1,h2⟩,h3⟩
  have:a=k:=by omega
  subst this
  exact ⟨h1,h2⟩
 ·rintro ⟨h1,h2⟩
  exact ⟨k,⟨h1,h2⟩,rfl⟩
theorem othL_snoc (s:Int) (n:Nat):othL s (n + 1)=othL s n++(if bitB s n=true then [(n:Int)] else []):=by
 unfold othL
 rw [List.range_succ,List.filter_append,List.map_append]
 congr 1
 simp only [List.filter_cons,List.filter_nil]
 split <;> simp_all
theorem incF_snoc {n:Nat}:∀ {L:List Int} {f k:Nat},incF k f L→f≤k→k < n→incF n f (L++[(k:Int)])
 | [],f,k,_,h1,h2=>⟨k,rfl,h1,h2,trivial⟩
 | x::L,f,k,⟨i,h1,h2,h3,h4⟩,h5,h6=>⟨i,h1,h2,by omega,incF_snoc h4 (by omega) h6⟩
theorem incF_up {n n':Nat} (h:n≤n'):∀ {L:List Int} {f:Nat},incF n f L→incF n' f L
 | [],_,_=>trivial
 | x::L,f,⟨i,h1,h2,h3,h4⟩=>⟨i,h1,h2,by omega,incF_up h h4⟩
theorem othL_inc (s:Int):∀ n:Nat,incF n 0 (othL s n)
 | 0=>trivial
 | n + 1=>by
  rw [othL_snoc]
  split
  ·exact incF_snoc (othL_inc s n) (Nat.zero_le _) (Nat.lt_succ_self _)
  ·rw [List.append_nil]; exact incF_up (Nat.le_succ _) (othL_inc s n)
theorem othL_len (s:Int) (n:Nat):(othL s n).length≤n:=by
 have:=incF_len (othL_inc s n) (Nat.zero_le _)
 omega
structure Tri (we w:AW) (n0:Nat) (v11 v12 v13:Value) (a11:List Int) (a12 a13:List CRead):Prop where
 up:∀ x,x≤n0→w.heap.get x=we.heap.get x
 next:n0 < w.next
 lim:w.lim=we.lim
 rows:∃ B1 B2 B3,AccQ intC 3 n0 w v11 a11 B1∧AccQ readC 72 n0 w v12 a12 B2∧AccQ readC 72 n0 w v13 a13 B3∧(a11=[]∨a12=[]∨B1 ≠ B2)∧(a11=[]∨a13=[]∨B1 ≠ B3)∧(a12=[]∨a13=[]∨B2 ≠ B3)
theorem Tri.push12 {we w:AW} {n0:Nat} {v11 v12 v13:Value} {a11:List Int} {a12 a13:List CRead} (h:Tri we w n0 v11 v12 v13 a11 a12 a13) (hl:w.lim≤n0) (hlen:a12.length≤90000) (y:CRead) :
  ∃ v' w',append1 Tryd.prog ⟨w.heap.put w.next (some (.cells (readC y) 72 false)),w.next + 1,w.lim⟩ [42,42] [v12,.slice (some ⟨w.next,0,none⟩) 1 1]=.val v' w'∧Tri we w' n0 v11 v' v13 a11 (a12++[y]) a13:=by
 obtain ⟨B1,B2,B3,h1,h2,h3,d12,d13,d23⟩:=h.rows
 obtain ⟨v',w',ha,⟨B',hB',hacc⟩,hk,hn,hlm⟩:=AccQ.push (P:=Tryd.prog) (st:=42) (sz:=3) list42 elem42 sz72 small72 readC_length (fun _=>rfl) (by decide) h2 hl h.next hlen y
 have hnx:=h.next
 refine ⟨v',w',ha,⟨fun x hx=>?_,by omega,hlm.trans h.lim,B1,B',B3,h1.keep (fun hne hb1 hb2=>hk B1 hb2 fun hne2=>?_) hn,hacc,h3.keep (fun hne hb1 hb2=>hk B3 hb2 fun hne2=>?_) hn,?_,d13,?_⟩⟩
 ·rw [hk x (by omega) fun hne=>by have:=h2.lt hne; omega]; exact h.up x hx
 ·rcases d12 with e | e | e
  ·exact absurd e hne
  ·exact absurd e hne2
  ·exact e
 ·rcases d23 with e | e | e
  ·exact absurd e hne2
  ·exact absurd e hne
  ·exact fun q=>e q.symm
 ·by_cases e:a11=[]
  ·exact .inl e
  ·have:=h1.lt e; exact .inr (.inr (by omega))
 ·by_cases e:a13=[]
  ·exact .inr (.inl e)
  ·have:=h3.lt e; exact .inr (.inr (by omega))
theorem Tri.push13 {we w:AW} {n0:Nat} {v11 v12 v13:Value} {a11:List Int} {a12 a13:List CRead} (h:Tri we w n0 v11 v12 v13 a11 a12 a13) (hl:w.lim≤n0) (hlen:a13.length≤90000) (y:CRead) :
  ∃ v' w',append1 Tryd.prog ⟨w.heap.put w.next (some (.cells (readC y) 72 false)),w.next + 1,w.lim⟩ [42,42] [v13,.slice (some ⟨w.next,0,none⟩) 1 1]=.val v' w'∧Tri we w' n0 v11 v12 v' a11 a12 (a13++[y]):=by
 obtain ⟨B1,B2,B3,h1,h2,h3,d12,d13,d23⟩:=h.rows
 have hsw:Tri we w n0 v11 v13 v12 a11 a13 a12:=⟨h.up,h.next,h.lim,B1,B3,B2,h1,h3,h2,d13,d12,d23.elim (fun e=>.inr (.inl e)) fun e=>e.elim (fun e=>.inl e) fun e=>.inr (.inr fun q=>e q.symm)⟩
 obtain ⟨v',w',ha,hT⟩:=hsw.push12 hl hlen y
 obtain ⟨C1,C2,C3,k1,k2,k3,e12,e13,e23⟩:=hT.rows
 exact ⟨v',w',ha,⟨hT.up,hT.next,hT.lim,C1,C3,C2,k1,k3,k2,e13,e12,e23.elim (fun e=>.inr (.inl e)) fun e=>e.elim (fun e=>.inl e) fun e=>.inr (.inr fun q=>e q.symm)⟩⟩
theorem Tri.push11 {we w:AW} {n0:Nat} {v11 v12 v13:Value} {a11:List Int} {a12 a13:List CRead} (h:Tri we w n0 v11 v12 v13 a11 a12 a13) (hl:w.lim≤n0) (hlen:a11.length≤90000) (y:Int) :
  ∃ v' w',append1 Tryd.prog ⟨w.heap.put w.next (some (.cells [.int .i64 y] 3 false)),w.next + 1,w.lim⟩ [28,28] [v11,.slice (some ⟨w.next,0,none⟩) 1 1]=.val v' w'∧Tri we w' n0 v' v12 v13 (a11++[y]) a12 a13:=by
 obtain ⟨B1,B2,B3,h1,h2,h3,d12,d13,d23⟩:=h.rows
 obtain ⟨v',w',ha,⟨B',hB',hacc⟩,hk,hn,hlm⟩:=AccQ.push (P:=Tryd.prog) (st:=28) (sz:=1) list28 elem28 sz3 small3 intC_length (fun _=>rfl) (by decide) h1 hl h.next hlen y
 have hnx:=h.next
 refine ⟨v',w',ha,⟨fun x hx=>?_,by omega,hlm.trans h.lim,B',B2,B3,hacc,h2.keep (fun hne hb1 hb2=>hk B2 hb2 fun hne2=>?_) hn,h3.keep (fun hne hb1 hb2=>hk B3 hb2 fun hne2=>?_) hn,?_,?_,d23⟩⟩
 ·rw [hk x (by omega) fun hne=>by have:=h1.lt hne; omega]; exact h.up x hx
 ·rcases d12 with e | e | e
  ·exact absurd e hne2
  ·exact absurd e hne
  ·exact fun q=>e q.symm
 ·rcases d13 with e | e | e
  ·exact absurd e hne2
  ·exact absurd e hne
  ·exact fun q=>e q.symm
 ·by_cases e:a12=[]
  ·exact .inr (.inl e)
  ·have:=h2.lt e; exact .inr (.inr (by omega))
 ·by_cases e:a13=[]
  ·exact .inr (.inl e)
  ·have:=h3.lt e; exact .inr (.inr (by omega))
end Go.Proofs.YtlkklcbjjompbaaDoor.walk
namespace Go.Proofs.YtlkklcbjjompbaaDoor.walk
open Go Go.Sh
set_option maxRecDepth 100000
set_option linter.unusedSimpArgs false
theorem rds_wo {n:Int} {l:List CRead} (h:rdsB n l=true) (o:List Int):rdsB n (woL l o 0)=true:=by
 simp only [rdsB,Bool.and_eq_true,decide_eq_true_eq] at h ⊢
 exact ⟨Nat.le_trans (woL_len o l 0) h.1,List.all_eq_true.2 fun p hp=>List.all_eq_true.1 h.2 p (woL_mem hp)⟩
end Go.Proofs.YtlkklcbjjompbaaDoor.walk
