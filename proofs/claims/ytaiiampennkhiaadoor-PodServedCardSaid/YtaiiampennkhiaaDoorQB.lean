/- Part of a proof by a machine of ones own: see the text with the theorem. -/
import Derived.Test.YtaiiampennkhiaaDoorQHb
namespace Go.Proofs.YtaiiampennkhiaaDoor.walk
open Go Go.Sh
open known (partsC laidL noOv)
set_option maxRecDepth 100000
set_option linter.unusedSimpArgs false
def wrapI (n s:Int):Int:=if s < 1 then 0 else (n.tmod s + s).tmod s
theorem wrapI_bd {n s:Int} (h:1≤s):0≤wrapI n s∧wrapI n s < s:=by
 have h2:=Int.lt_tmod_of_pos n (show 0 < s by omega)
 unfold wrapI
 rw [if_neg (by omega)]
 exact ⟨Int.tmod_nonneg _ (by omega),Int.tmod_lt_of_pos _ (by omega)⟩
noncomputable def F42:PureF:=fun args _=>match args with | [.int .i64 n,.int .i64 s]=>bif decide (s≤2 ^ 60) then some (.int .i64 (wrapI n s)) else none | _=>none
theorem rule42 {ov:Ov} (k:HasP ov 42 F42) (n:Int) {s:Int} (hs:s≤2 ^ 60) (w:AW):(run Tryd.prog ov 1).call 42 [.int .i64 n,.int .i64 s] w .none=.ok (.ret (.int .i64 (wrapI n s))) w .none:=k.call (by
 show (bif decide (s≤2 ^ 60) then some (Value.int .i64 (wrapI n s)) else none)=_
 rw [decide_eq_true hs]; rfl)
theorem run42 {ov:Ov} (ho:∀ args w,ov 42 args w=none) (n s:Int) (hs:s≤2 ^ 60) (w:AW):∃ v w',(run Tryd.prog ov 2).call 42 [.int .i64 n,.int .i64 s] w .none=.ok (.ret v) w' .none∧v=.int .i64 (wrapI n s):=by
 refine call_wp text42 (by simp) (ho _ _) ?_
 by_cases h1:s < 1
 ·simp [mc42,h1,tupV,wrapI]
 ·have hr:=fun (a:Int) (c:Bool) w=>bin_rem (P:=Tryd.prog) (w:=w) 3 c .i64 a s (by omega)
  have b1:=Int.lt_tmod_of_pos n (show 0 < s by omega)
  have b2:=Int.tmod_lt_of_pos n (show 0 < s by omega)
  have w1:IntKind.wrap .i64 (n.tmod s + s)=n.tmod s + s:=wrap64_in (by omega) (by omega)
  simp [mc42,h1,tupV,wrapI,hr,w1]
def nthI (L:List Int) (i:Int):Int:=match L[(wrapI i L.length).toNat]? with | some z=>z | none=>0
noncomputable def F41:PureF:=fun args w=>match args with | [v,.int .i64 i]=>(rowsIn intC w v).bind fun L=>bif decide (L.length≤2 ^ 60) then some (.int .i64 (nthI L i)) else none | _=>none
theorem run41 {ov:Ov} (ho:∀ args w,ov 41 args w=none) (h42:HasP ov 42 F42) (v:Value) (L:List Int) (i:Int) (w:AW) (hv:RowsV intC w v L) (hs:L.length≤2 ^ 60):∃ x w',(run Tryd.prog ov 2).call 41 [v,.int .i64 i] w .none=.ok (.ret x) w' .none∧x=.int .i64 (nthI L i):=by
 refine call_wp text41 (by simp) (ho _ _) ?_
 have hl:=len33V hv
 have r42:=rule42 h42 i (s:=L.length) (by omega)
 by_cases h0:L.length=0
 ·have:L=[]:=List.eq_nil_of_length_eq_zero h0
  subst this
  simp [mc41,hl,tupV,nthI]
 ·have hb:=wrapI_bd (n:=i) (s:=L.length) (by omega)
  obtain ⟨k,hk⟩:∃ k:Nat,(k:Int)=wrapI i L.length:=⟨(wrapI i L.length).toNat,by omega⟩
  have hkl:k < L.length:=by omega
  obtain ⟨z,hz⟩:∃ z,L[k]?=some z:=⟨_,List.getElem?_eq_getElem hkl⟩
  obtain ⟨b,off,sq,c,rfl,hr⟩:=hv.at_ k hkl
  have hld:=hr.int hz
  have hia:=fun w=>ia33 w ⟨b,off,sq⟩ L.length c .i64 k hkl
  rw [← hk] at r42
  have hn:nthI L i=z:=by
   unfold nthI
   rw [← hk,Int.toNat_natCast,hz]
  have h0':¬ (L.length:Int)=0:=by omega
  simp [mc41,hl,h0,h0',r42,hia,hld,tupV,hn]
def withI (lo hi n:Int):Int:=lo + wrapI n (hi - lo + 1)
theorem with_in {lo hi n:Int} (h:lo≤hi):inI lo (withI lo hi n) hi=true:=by
 obtain ⟨a,b⟩:=wrapI_bd (n:=n) (s:=hi - lo + 1) (by omega)
 obtain ⟨x,hx⟩:∃ x,x=wrapI n (hi - lo + 1):=⟨_,rfl⟩
 rw [← hx] at a b
 simp only [inI,withI,← hx,Bool.and_eq_true,decide_eq_true_eq]
 exact ⟨by omega,by omega⟩
noncomputable def F38:PureF:=fun args _=>match args with | [.int .i64 lo,.int .i64 hi,.int .i64 n]=>bif inI 0 lo 100000 && inI 0 hi 100000 then some (.int .i64 (withI lo hi n)) else none | _=>none
theorem run38 {ov:Ov} (ho:∀ args w,ov 38 args w=none) (h42:HasP ov 42 F42) (lo hi n:Int) (hb:(0≤lo∧lo≤100000)∧0≤hi∧hi≤100000) (w:AW):∃ v w',(run Tryd.prog ov 2).call 38 [.int .i64 lo,.int .i64 hi,.int .i64 n] w .none=.ok (.ret v) w' .none∧v=.int .i64 (withI lo hi n):=by
 refine call_wp text38 (by simp) (ho _ _) ?_
 have w1:IntKind.wrap .i64 (hi - lo)=hi - lo:=wrap64_in (by omega) (by omega)
 have w2:IntKind.wrap .i64 (hi - lo + 1)=hi - lo + 1:=wrap64_in (by omega) (by omega)
 have r42:=rule42 h42 n (s:=hi - lo + 1) (by omega)
 have hbd : -1≤wrapI n (hi - lo + 1)∧wrapI n (hi - lo + 1)≤200001:=by
  by_cases h:1≤hi - lo + 1
  ·have:=wrapI_bd (n:=n) h; omega
  ·unfold wrapI; rw [if_pos (by omega)]; omega
 have w3:IntKind.wrap .i64 (lo + wrapI n (hi - lo + 1))=lo + wrapI n (hi - lo + 1):=wrap64_in (by omega) (by omega)
 simp [mc38,w1,w2,r42,w3,tupV,withI]
end Go.Proofs.YtaiiampennkhiaaDoor.walk
namespace Go.Proofs.YtaiiampennkhiaaDoor.walk
open Go Go.Sh
open known (partsC laidL noOv)
set_option maxRecDepth 100000
variable {fm:Nat}
theorem rule41m {ov:Ov} (k:HasP ov 41 F41) {v:Value} {L:List Int} (i:Int) {w:AW} (hv:RowsV intC w v L) (hs:L.length≤2 ^ 60):(run Tryd.prog ov (fm + 1)).call 41 [v,.int .i64 i] w .none=.ok (.ret (.int .i64 (nthI L i))) w .none:=k.call (by
 unfold F41
 simp only [hv.rowsIn (m:=1) intC_length intC_inj,Option.bind_some,decide_eq_true hs]; rfl)
theorem rule38g {ov:Ov} (k:HasP ov 38 F38) {lo hi:Int} (n:Int) (h1:0≤lo∧lo≤100000) (h2:0≤hi∧hi≤100000) (w:AW):(run Tryd.prog ov (fm + 1)).call 38 [.int .i64 lo,.int .i64 hi,.int .i64 n] w .none=.ok (.ret (.int .i64 (withI lo hi n))) w .none:=k.call (by simp [F38,inI,h1,h2])
set_option linter.unusedSimpArgs false
noncomputable def mc34_p0:MC:=.seq (.ops [⟨true,none,some 18,0,.fieldAddr 35 (.tmp 5) 0⟩]) (.seq (.ops [⟨true,none,some 19,33,.load 33 (.tmp 18)⟩]) (.seq (.ops [⟨true,none,some 20,0,.fieldAddr 30 (.tmp 7) 2⟩]) (.seq (.ops [⟨true,none,some 21,0,.fieldAddr 26 (.tmp 20) 0⟩]) (.seq (.ops [⟨true,none,some 22,3,.load 3 (.tmp 21)⟩]) (.seq (.ops [⟨true,none,some 23,0,.fieldAddr 30 (.tmp 7) 2⟩]) (.seq (.ops [⟨true,none,some 24,0,.fieldAddr 26 (.tmp 23) 1⟩]) (.seq (.ops [⟨true,none,some 25,3,.load 3 (.tmp 24)⟩]) (.seq (.ops [⟨true,none,some 26,33,.move (.tmp 1)⟩]) (.seq (.ops [⟨true,none,some 27,3,.move (.tmp 6)⟩]) (.seq (.ops [⟨true,none,some 28,3,.binOp .mul 3 (.const (.int .i64 3)) (.tmp 27) 3⟩]) (.seq (.ops [⟨false,none,some 29,3,.call ⟨.value (.func 41),#[.tmp 26,.tmp 28],#[33,3]⟩⟩]) (.seq (.chk [⟨true,none,some 25,3,.load 3 (.tmp 24)⟩,⟨true,none,some 22,3,.load 3 (.tmp 21)⟩,⟨true,none,some 19,33,.load 33 (.tmp 18)⟩]) (.seq (.ops [⟨false,none,some 30,3,.call ⟨.value (.func 38),#[.tmp 22,.tmp 25,.tmp 29],#[3,3,3]⟩⟩]) (.seq (.ops [⟨true,none,some 31,33,.buildSlice 33 1 #[(0,.tmp 30)]⟩]) (.seq (.chk [⟨true,none,some 19,33,.load 33 (.tmp 18)⟩]) (.seq (.ops [⟨false,none,some 32,33,.call ⟨.builtin .append,#[.tmp 19,.tmp 31],#[33,33]⟩⟩]) (.seq (.ops [⟨true,none,some 33,0,.fieldAddr 35 (.tmp 5) 0⟩]) (.seq (.ops [⟨false,none,none,0,.store 33 (.tmp 33) (.tmp 32)⟩]) (.chk [])))))))))))))))))))
noncomputable def mc34_p1:MC:=.seq (.ops [⟨true,none,some 34,0,.fieldAddr 35 (.tmp 5) 1⟩]) (.seq (.ops [⟨true,none,some 35,33,.load 33 (.tmp 34)⟩]) (.seq (.ops [⟨true,none,some 36,0,.fieldAddr 30 (.tmp 7) 3⟩]) (.seq (.ops [⟨true,none,some 37,0,.fieldAddr 26 (.tmp 36) 0⟩]) (.seq (.ops [⟨true,none,some 38,3,.load 3 (.tmp 37)⟩]) (.seq (.ops [⟨true,none,some 39,0,.fieldAddr 30 (.tmp 7) 3⟩]) (.seq (.ops [⟨true,none,some 40,0,.fieldAddr 26 (.tmp 39) 1⟩]) (.seq (.ops [⟨true,none,some 41,3,.load 3 (.tmp 40)⟩]) (.seq (.ops [⟨true,none,some 42,33,.move (.tmp 1)⟩]) (.seq (.ops [⟨true,none,some 43,3,.move (.tmp 6)⟩]) (.seq (.ops [⟨true,none,some 44,3,.binOp .mul 3 (.const (.int .i64 3)) (.tmp 43) 3⟩]) (.seq (.ops [⟨true,none,some 45,3,.binOp .add 3 (.tmp 44) (.const (.int .i64 1)) 3⟩]) (.seq (.ops [⟨false,none,some 46,3,.call ⟨.value (.func 41),#[.tmp 42,.tmp 45],#[33,3]⟩⟩]) (.seq (.chk [⟨true,none,some 41,3,.load 3 (.tmp 40)⟩,⟨true,none,some 38,3,.load 3 (.tmp 37)⟩,⟨true,none,some 35,33,.load 33 (.tmp 34)⟩]) (.seq (.ops [⟨false,none,some 47,3,.call ⟨.value (.func 38),#[.tmp 38,.tmp 41,.tmp 46],#[3,3,3]⟩⟩]) (.seq (.ops [⟨true,none,some 48,33,.buildSlice 33 1 #[(0,.tmp 47)]⟩]) (.seq (.chk [⟨true,none,some 35,33,.load 33 (.tmp 34)⟩]) (.seq (.ops [⟨false,none,some 49,33,.call ⟨.builtin .append,#[.tmp 35,.tmp 48],#[33,33]⟩⟩]) (.seq (.ops [⟨true,none,some 50,0,.fieldAddr 35 (.tmp 5) 1⟩]) (.seq (.ops [⟨false,none,none,0,.store 33 (.tmp 50) (.tmp 49)⟩]) (.chk []))))))))))))))))))))
noncomputable def mc34_p2:MC:=.seq (.ops [⟨true,none,some 51,0,.fieldAddr 35 (.tmp 5) 2⟩]) (.seq (.ops [⟨true,none,some 52,33,.load 33 (.tmp 51)⟩]) (.seq (.ops [⟨true,none,some 53,0,.fieldAddr 30 (.tmp 7) 4⟩]) (.seq (.ops [⟨true,none,some 54,0,.fieldAddr 26 (.tmp 53) 0⟩]) (.seq (.ops [⟨true,none,some 55,3,.load 3 (.tmp 54)⟩]) (.seq (.ops [⟨true,none,some 56,0,.fieldAddr 30 (.tmp 7) 4⟩]) (.seq (.ops [⟨true,none,some 57,0,.fieldAddr 26 (.tmp 56) 1⟩]) (.seq (.ops [⟨true,none,some 58,3,.load 3 (.tmp 57)⟩]) (.seq (.ops [⟨true,none,some 59,33,.move (.tmp 1)⟩]) (.seq (.ops [⟨true,none,some 60,3,.move (.tmp 6)⟩]) (.seq (.ops [⟨true,none,some 61,3,.binOp .mul 3 (.const (.int .i64 3)) (.tmp 60) 3⟩]) (.seq (.ops [⟨true,none,some 62,3,.binOp .add 3 (.tmp 61) (.const (.int .i64 2)) 3⟩]) (.seq (.ops [⟨false,none,some 63,3,.call ⟨.value (.func 41),#[.tmp 59,.tmp 62],#[33,3]⟩⟩]) (.seq (.chk [⟨true,none,some 58,3,.load 3 (.tmp 57)⟩,⟨true,none,some 55,3,.load 3 (.tmp 54)⟩,⟨true,none,some 52,33,.load 33 (.tmp 51)⟩]) (.seq (.ops [⟨false,none,some 64,3,.call ⟨.value (.func 38),#[.tmp 55,.tmp 58,.tmp 63],#[3,3,3]⟩⟩]) (.seq (.ops [⟨true,none,some 65,33,.buildSlice 33 1 #[(0,.tmp 64)]⟩]) (.seq (.chk [⟨true,none,some 52,33,.load 33 (.tmp 51)⟩]) (.seq (.ops [⟨false,none,some 66,33,.call ⟨.builtin .append,#[.tmp 52,.tmp 65],#[33,33]⟩⟩]) (.seq (.ops [⟨true,none,some 67,0,.fieldAddr 35 (.tmp 5) 2⟩]) (.seq (.ops [⟨false,none,none,0,.store 33 (.tmp 67) (.tmp 66)⟩]) (.chk []))))))))))))))))))))
theorem mc34_eq:mc34_l0=.seq (.seq (.ops [⟨false,none,some 8,3,.move (.tmp 6)⟩,⟨false,none,some 9,22,.move (.tmp 0)⟩,⟨false,none,some 10,3,.call ⟨.builtin .len,#[.tmp 9],#[22]⟩⟩,⟨false,none,some 11,4,.binOp .lss 3 (.tmp 8) (.tmp 10) 3⟩]) (.cond (.tmp 11) (.skip) (.exit 0))) (.seq (.block 1 (.seq (.ops [⟨false,none,some 14,22,.move (.tmp 0)⟩,⟨false,none,some 15,3,.move (.tmp 6)⟩,⟨false,none,some 16,0,.indexAddr 22 (.tmp 14) (.tmp 15)⟩,⟨false,none,some 17,30,.load 30 (.tmp 16)⟩,⟨false,none,some 7,0,.alloc 30⟩,⟨false,none,none,0,.store 30 (.tmp 7) (.tmp 17)⟩]) (.seq mc34_p0 (.seq mc34_p1 mc34_p2)))) (.ops [⟨false,none,some 12,3,.move (.tmp 6)⟩,⟨false,none,some 13,3,.binOp .add 3 (.tmp 12) (.const (.int .i64 1)) 3⟩,⟨false,none,some 6,3,.assign (.tmp 13)⟩])):=rfl
theorem isList33:isList Tryd.prog 33=true:=by kernel_rfl
theorem elem33:elemA Tryd.prog 33=some 3:=by kernel_rfl
theorem sz3:szOf Tryd.prog 3=some 1:=by kernel_rfl
theorem small3:smallT Tryd.prog 3=true:=by kernel_rfl
def AccI (n1:Nat) (w:AW) (v:Value) (acc:List Int) (B:Nat):Prop:=(acc=[]∧v=.slice none 0 0∧B=0)∨(v=.slice (some ⟨B,0,none⟩) acc.length acc.length∧w.heap.get B=some (.cells (acc.flatMap intC) 3 false)∧n1 < B∧B < w.next)
theorem AccI.lt {n1:Nat} {w:AW} {v:Value} {acc:List Int} {B:Nat} (h:AccI n1 w v acc B) (hn:0 < w.next):B < w.next:=by
 rcases h with ⟨_,_,rfl⟩ | ⟨_,_,_,h⟩
 ·exact hn
 ·exact h
theorem AccI.keep {n1:Nat} {w w':AW} {v:Value} {acc:List Int} {B B0:Nat} (h:AccI n1 w v acc B) (k:∀ x,x < w.next→(x=B0→B0=0)→n1 < x→w'.heap.get x=w.heap.get x) (hn:w.next≤w'.next) (hs:B=B0→B=0):AccI n1 w' v acc B:=by
 rcases h with h | ⟨h1,h2,h3,h4⟩
 ·exact .inl h
 ·refine .inr ⟨h1,?_,h3,by omega⟩
  rw [k B h4 (fun e=>by have:=hs e; omega) h3,h2]
theorem AccI.same {n1:Nat} {w:AW} {v:Value} {acc:List Int} {B:Nat} (h:AccI n1 w v acc B):sameVal 5 v v=true:=by
 rcases h with ⟨_,rfl,_⟩ | ⟨rfl,_⟩
 ·exact sameN_slice 4 _ _ _
 ·exact sameN_slice 4 _ _ _
theorem int_push {n1:Nat} {w:AW} {v:Value} {acc:List Int} {B:Nat} (h:AccI n1 w v acc B) (hl:w.lim≤n1) (hn:n1 < w.next) (hlen:acc.length≤90000) (z:Int) :
  ∃ v' w' B',append1 Tryd.prog ⟨w.heap.put w.next (some (.cells [.int .i64 z] 3 false)),w.next + 1,w.lim⟩ [33,33] [v,.slice (some ⟨w.next,0,none⟩) 1 1]=.val v' w'∧AccI n1 w' v' (acc++[z]) B'∧(∀ x,x < w.next→(x=B→B=0)→w'.heap.get x=w.heap.get x)∧w.next≤B'∧w.next≤w'.next∧w'.lim=w.lim:=by
 have hsrc:srcCells ⟨w.heap.put w.next (some (.cells [.int .i64 z] 3 false)),w.next + 1,w.lim⟩ 1 (.slice (some ⟨w.next,0,none⟩) 1 1)=some [.int .i64 z]:=src_row (e':=3) (ro:=false) (k:=1) (by simp) (by simp) (by decide) (by decide)
 rcases h with ⟨rfl,rfl,rfl⟩ | ⟨rfl,hB,h1,h2⟩
 ·refine ⟨_,_,w.next + 1,append_nil isList33 elem33 sz3 small3 (m:=1) rfl hsrc (by simp) (by decide) (by decide),.inr ⟨rfl,?_,?_,?_⟩,fun x hx _=>?_,by omega,?_,rfl⟩
  ·simp [intC]
  ·omega
  ·exact Nat.lt_succ_self _
  ·show ((w.heap.put w.next _).put (w.next + 1) _).get x=_
   rw [get_put,if_neg (by omega),get_put,if_neg (by omega)]
  ·show w.next≤w.next + 1 + 1; omega
 ·have hB':(w.heap.put w.next (some (.cells [.int .i64 z] 3 false))).get B=some (.cells (acc.flatMap intC) 3 false):=by rw [get_put,if_neg (by omega)]; exact hB
  refine ⟨_,_,w.next + 1,append_full isList33 elem33 sz3 small3 (n:=acc.length) (m:=1) (c:=acc.flatMap intC) rfl hsrc (by simp) (by simp) (by decide) (by omega) hB' (flat_length intC_length acc) (by show w.lim≤B; omega),.inr ⟨?_,?_,?_,?_⟩,fun x hx hxB=>?_,by omega,?_,rfl⟩
  ·simp
  ·show (((w.heap.put w.next _).put B none).put (w.next + 1) _).get (w.next + 1)=_
   rw [get_put,if_pos rfl]; simp [intC]
  ·omega
  ·exact Nat.lt_succ_self _
  ·have:¬ x=B:=fun e=>by have:=hxB e; omega
   show (((w.heap.put w.next _).put B none).put (w.next + 1) _).get x=_
   rw [get_put,if_neg (by omega),get_put,if_neg this,get_put,if_neg (by omega)]
  ·show w.next≤w.next + 1 + 1; omega
structure In34 (w0:AW) (vr vh vg:Value) (R H G:List Int) (Br Bh Bg:Nat) (w:AW):Prop where
 old:Old w0.next w0.heap w.heap
 res:w.heap.get w0.next=some (.cells [.slice none 0 0,.slice none 0 0,.slice none 0 0] 35 false)
 box:w.heap.get (w0.next + 1)=some (.cells [vr,vh,vg] 35 false)
 ar:AccI (w0.next + 1) w vr R Br
 ah:AccI (w0.next + 1) w vh H Bh
 ag:AccI (w0.next + 1) w vg G Bg
 rh:Br=Bh→Br=0
 rg:Br=Bg→Br=0
 hg:Bh=Bg→Bh=0
 next:w0.next + 1 < w.next
 lim:w.lim=w0.lim
structure Pd34 (n pb:Nat) (p:Pod) (Br Bh Bg:Nat) (w:AW):Prop where
 pod:w.heap.get pb=some (.cells (podC p) 30 false)
 lo:n + 1 < pb
 hi:pb < w.next
 sr:¬ pb=Br
 sh:¬ pb=Bh
 sg:¬ pb=Bg
theorem part34_0 {ov:Ov} (h41:HasP ov 41 F41) (h38:HasP ov 38 F38) (bv vl:Value) (bits:List Int) (w0:AW) (hl0:w0.lim≤w0.next) (hb:RowsV intC w0 bv bits) (hbl:bits.length≤2 ^ 60) (p:Pod) (hp:podB p=true) (i:Nat) (hi:i≤1000) (pb:Nat)
  (vr vh vg:Value) (R H G:List Int) (hR:R.length≤1000) (Br Bh Bg:Nat) (Q:Ex→Tm→AW→Prop) (t:Tm) (w:AW) (hw:In34 w0 vr vh vg R H G Br Bh Bg w) (hpd:Pd34 w0.next pb p Br Bh Bg w)
  (t0:tget t 0=vl) (t1:tget t 1=bv) (t4:tget t 4=.pointer (some ⟨w0.next,0,none⟩)) (t5:tget t 5=.pointer (some ⟨w0.next + 1,0,none⟩)) (t6:tget t 6=.int .i64 (i:Nat)) (t7:tget t 7=.pointer (some ⟨pb,0,none⟩))
  (hQ:∀ t w vr Br,In34 w0 vr vh vg (R++[withI p.rl p.rh (nthI bits (3 * i))]) H G Br Bh Bg w→Pd34 w0.next pb p Br Bh Bg w→tget t 0=vl→tget t 1=bv→tget t 4=.pointer (some ⟨w0.next,0,none⟩)→tget t 5=.pointer (some ⟨w0.next + 1,0,none⟩)→tget t 6=.int .i64 (i:Nat)→tget t 7=.pointer (some ⟨pb,0,none⟩)→Q .normal t w) :
  wp (exM Tryd.prog (run Tryd.prog ov (fm + 1)) mc34_p0 t w) Q:=by
 have k:=pod_ok hp
 have kr0:=k.r0; have kr1:=k.r1; have kr2:=k.r2; have kh0:=k.h0; have kh1:=k.h1; have kh2:=k.h2; have kg0:=k.g0; have kg1:=k.g1; have kg2:=k.g2
 have hbox:=hw.box
 have hpod:=hpd.pod
 have lo:=hpd.lo; have hhi:=hpd.hi; have hnx:=hw.next; have hlm:=hw.lim
 have hbw:RowsV intC w bv bits:=hb.old hw.old (by omega)
 have r41:=rule41m (fm:=fm) h41 (3 * (i:Int)) hbw hbl
 have r38:=rule38g (fm:=fm) h38 (lo:=p.rl) (hi:=p.rh) (nthI bits (3 * (i:Int))) (by omega) (by omega) w
 obtain ⟨v',w1,B',ha,hacc,hk,hB',hn1,hl1⟩:=int_push hw.ar (by omega) hw.next (by omega) (withI p.rl p.rh (nthI bits (3 * (i:Int))))
 obtain ⟨n',hv'⟩:∃ n',v'=.slice (some ⟨B',0,none⟩) n' n':=by
  rcases hacc with ⟨h,_⟩ | ⟨h,_⟩
  ·exact absurd h (by simp)
  ·exact ⟨_,h⟩
 subst hv'
 have wm:IntKind.wrap .i64 (3 * (i:Int))=3 * (i:Int):=wrap64_in (by omega) (by omega)
 have sv:=hw.ar.same
 have hbr:w0.next + 1=Br→Br=0:=fun e=>by
  rcases hw.ar with ⟨_,_,h⟩ | ⟨_,_,h,_⟩
  ·exact h
  ·omega
 have hbr0:w0.next=Br→Br=0:=fun e=>by
  rcases hw.ar with ⟨_,_,h⟩ | ⟨_,_,h,_⟩
  ·exact h
  ·omega
 have hbox1:w1.heap.get (w0.next + 1)=some (.cells [vr,vh,vg] 35 false):=by rw [hk _ hnx hbr]; exact hbox
 have hpod1:w1.heap.get pb=some (.cells (podC p) 30 false):=by rw [hk _ hhi fun e=>absurd e hpd.sr]; exact hpod
 have m1:¬ w0.next + 1=w.next:=by omega
 have m2:¬ pb=w.next:=by omega
 have l1:w1.lim≤w0.next + 1:=by omega
 have c2:∀ h,(podC p)[2]'h=.int .i64 p.rl:=fun _=>rfl
 have c3:∀ h,(podC p)[3]'h=.int .i64 p.rh:=fun _=>rfl
 simp [mc34_p0,t1,t5,t6,t7,hbox,hpod,c2,c3,wm,r41,r38,m1,m2,sv,ha,hbox1,l1,sameN_int]
 refine hQ _ _ (.slice (some ⟨B',0,none⟩) n' n') B' ⟨fun b hb=>?_,?_,?_,?_,?_,?_,?_,?_,hw.hg,?_,?_⟩ ⟨?_,lo,?_,?_,hpd.sh,hpd.sg⟩ ?_ ?_ ?_ ?_ ?_ ?_
 ·have q:¬ b=w0.next + 1:=by omega
  rw [get_put,if_neg q,hk b (by omega) fun e=>?_,hw.old b hb]
  rcases hw.ar with ⟨_,_,h⟩ | ⟨_,_,h,_⟩
  ·exact h
  ·omega
 ·simp [hk _ (show w0.next < w.next by omega) hbr0,hw.res]
 ·simp
 ·exact hacc.keep (B0:=0) (fun x _ _ h=>by simp [show ¬ x=w0.next + 1 by omega]) (Nat.le_refl _) (fun h=>h)
 ·exact hw.ah.keep (B0:=Br) (fun x h1 h2 h3=>by simp [show ¬ x=w0.next + 1 by omega,hk x h1 h2]) hn1 (fun h=>by have:=hw.rh h.symm; omega)
 ·exact hw.ag.keep (B0:=Br) (fun x h1 h2 h3=>by simp [show ¬ x=w0.next + 1 by omega,hk x h1 h2]) hn1 (fun h=>by have:=hw.rg h.symm; omega)
 ·intro h; have:=hw.ah.lt (by omega); omega
 ·intro h; have:=hw.ag.lt (by omega); omega
 ·show w0.next + 1 < w1.next; omega
 ·show w1.lim=w0.lim; omega
 ·simp [show ¬ pb=w0.next + 1 by omega,hpod1]
 ·show pb < w1.next; omega
 ·omega
 ·simp [t0]
 ·simp [t1]
 ·simp [t4]
 ·simp [t5]
 ·simp [t6]
 ·simp [t7]
theorem part34_1 {ov:Ov} (h41:HasP ov 41 F41) (h38:HasP ov 38 F38) (bv vl:Value) (bits:List Int) (w0:AW) (hl0:w0.lim≤w0.next) (hb:RowsV intC w0 bv bits) (hbl:bits.length≤2 ^ 60) (p:Pod) (hp:podB p=true) (i:Nat) (hi:i≤1000) (pb:Nat)
  (vr vh vg:Value) (R H G:List Int) (hH:H.length≤1000) (Br Bh Bg:Nat) (Q:Ex→Tm→AW→Prop) (t:Tm) (w:AW) (hw:In34 w0 vr vh vg R H G Br Bh Bg w) (hpd:Pd34 w0.next pb p Br Bh Bg w)
  (t0:tget t 0=vl) (t1:tget t 1=bv) (t4:tget t 4=.pointer (some ⟨w0.next,0,none⟩)) (t5:tget t 5=.pointer (some ⟨w0.next + 1,0,none⟩)) (t6:tget t 6=.int .i64 (i:Nat)) (t7:tget t 7=.pointer (some ⟨pb,0,none⟩))
  (hQ:∀ t w vh Bh,In34 w0 vr vh vg R (H++[withI p.hl p.hh (nthI bits (3 * i + 1))]) G Br Bh Bg w→Pd34 w0.next pb p Br Bh Bg w→tget t 0=vl→tget t 1=bv→tget t 4=.pointer (some ⟨w0.next,0,none⟩)→tget t 5=.pointer (some ⟨w0.next + 1,0,none⟩)→tget t 6=.int .i64 (i:Nat)→tget t 7=.pointer (some ⟨pb,0,none⟩)→Q .normal t w) :
  wp (exM Tryd.prog (run Tryd.prog ov (fm + 1)) mc34_p1 t w) Q:=by
 have k:=pod_ok hp
 have kr0:=k.r0; have kr1:=k.r1; have kr2:=k.r2; have kh0:=k.h0; have kh1:=k.h1; have kh2:=k.h2; have kg0:=k.g0; have kg1:=k.g1; have kg2:=k.g2
 have hbox:=hw.box
 have hpod:=hpd.pod
 have lo:=hpd.lo; have hhi:=hpd.hi; have hnx:=hw.next; have hlm:=hw.lim
 have hbw:RowsV intC w bv bits:=hb.old hw.old (by omega)
 have r41:=rule41m (fm:=fm) h41 (3 * (i:Int) + 1) hbw hbl
 have r38:=rule38g (fm:=fm) h38 (lo:=p.hl) (hi:=p.hh) (nthI bits (3 * (i:Int) + 1)) (by omega) (by omega) w
 obtain ⟨v',w1,B',ha,hacc,hk,hB',hn1,hl1⟩:=int_push hw.ah (by omega) hw.next (by omega) (withI p.hl p.hh (nthI bits (3 * (i:Int) + 1)))
 obtain ⟨n',hv'⟩:∃ n',v'=.slice (some ⟨B',0,none⟩) n' n':=by
  rcases hacc with ⟨h,_⟩ | ⟨h,_⟩
  ·exact absurd h (by simp)
  ·exact ⟨_,h⟩
 subst hv'
 have wm:IntKind.wrap .i64 (3 * (i:Int))=3 * (i:Int):=wrap64_in (by omega) (by omega)
 have wm2:IntKind.wrap .i64 (3 * (i:Int) + 1)=3 * (i:Int) + 1:=wrap64_in (by omega) (by omega)
 have sv:=hw.ah.same
 have hbr:w0.next + 1=Bh→Bh=0:=fun e=>by
  rcases hw.ah with ⟨_,_,h⟩ | ⟨_,_,h,_⟩
  ·exact h
  ·omega
 have hbr0:w0.next=Bh→Bh=0:=fun e=>by
  rcases hw.ah with ⟨_,_,h⟩ | ⟨_,_,h,_⟩
  ·exact h
  ·omega
 have hbox1:w1.heap.get (w0.next + 1)=some (.cells [vr,vh,vg] 35 false):=by rw [hk _ hnx hbr]; exact hbox
 have hpod1:w1.heap.get pb=some (.cells (podC p) 30 false):=by rw [hk _ hhi fun e=>absurd e hpd.sh]; exact hpod
 have m1:¬ w0.next + 1=w.next:=by omega
 have m2:¬ pb=w.next:=by omega
 have l1:w1.lim≤w0.next + 1:=by omega
 have c2:∀ h,(podC p)[4]'h=.int .i64 p.hl:=fun _=>rfl
 have c3:∀ h,(podC p)[5]'h=.int .i64 p.hh:=fun _=>rfl
 simp [mc34_p1,t1,t5,t6,t7,hbox,hpod,c2,c3,wm,wm2,r41,r38,m1,m2,sv,ha,hbox1,l1,sameN_int]
 refine hQ _ _ (.slice (some ⟨B',0,none⟩) n' n') B' ⟨fun b hb=>?_,?_,?_,?_,?_,?_,?_,hw.rg,?_,?_,?_⟩ ⟨?_,lo,?_,hpd.sr,?_,hpd.sg⟩ ?_ ?_ ?_ ?_ ?_ ?_
 ·have q:¬ b=w0.next + 1:=by omega
  rw [get_put,if_neg q,hk b (by omega) fun e=>?_,hw.old b hb]
  rcases hw.ah with ⟨_,_,h⟩ | ⟨_,_,h,_⟩
  ·exact h
  ·omega
 ·simp [hk _ (show w0.next < w.next by omega) hbr0,hw.res]
 ·simp
 ·exact hw.ar.keep (B0:=Bh) (fun x h1 h2 h3=>by simp [show ¬ x=w0.next + 1 by omega,hk x h1 h2]) hn1 (fun h=>by have:=hw.rh h; omega)
 ·exact hacc.keep (B0:=0) (fun x _ _ h=>by simp [show ¬ x=w0.next + 1 by omega]) (Nat.le_refl _) (fun h=>h)
 ·exact hw.ag.keep (B0:=Bh) (fun x h1 h2 h3=>by simp [show ¬ x=w0.next + 1 by omega,hk x h1 h2]) hn1 (fun h=>by have:=hw.hg h.symm; omega)
 ·intro h; have:=hw.ar.lt (by omega); omega
 ·intro h; have:=hw.ag.lt (by omega); omega
 ·show w0.next + 1 < w1.next; omega
 ·show w1.lim=w0.lim; omega
 ·simp [show ¬ pb=w0.next + 1 by omega,hpod1]
 ·show pb < w1.next; omega
 ·omega
 ·simp [t0]
 ·simp [t1]
 ·simp [t4]
 ·simp [t5]
 ·simp [t6]
 ·simp [t7]
theorem part34_2 {ov:Ov} (h41:HasP ov 41 F41) (h38:HasP ov 38 F38) (bv vl:Value) (bits:List Int) (w0:AW) (hl0:w0.lim≤w0.next) (hb:RowsV intC w0 bv bits) (hbl:bits.length≤2 ^ 60) (p:Pod) (hp:podB p=true) (i:Nat) (hi:i≤1000) (pb:Nat)
  (vr vh vg:Value) (R H G:List Int) (hG:G.length≤1000) (Br Bh Bg:Nat) (Q:Ex→Tm→AW→Prop) (t:Tm) (w:AW) (hw:In34 w0 vr vh vg R H G Br Bh Bg w) (hpd:Pd34 w0.next pb p Br Bh Bg w)
  (t0:tget t 0=vl) (t1:tget t 1=bv) (t4:tget t 4=.pointer (some ⟨w0.next,0,none⟩)) (t5:tget t 5=.pointer (some ⟨w0.next + 1,0,none⟩)) (t6:tget t 6=.int .i64 (i:Nat)) (t7:tget t 7=.pointer (some ⟨pb,0,none⟩))
  (hQ:∀ t w vg Bg,In34 w0 vr vh vg R H (G++[withI p.gl p.gh (nthI bits (3 * i + 2))]) Br Bh Bg w→Pd34 w0.next pb p Br Bh Bg w→tget t 0=vl→tget t 1=bv→tget t 4=.pointer (some ⟨w0.next,0,none⟩)→tget t 5=.pointer (some ⟨w0.next + 1,0,none⟩)→tget t 6=.int .i64 (i:Nat)→tget t 7=.pointer (some ⟨pb,0,none⟩)→Q .normal t w) :
  wp (exM Tryd.prog (run Tryd.prog ov (fm + 1)) mc34_p2 t w) Q:=by
 have k:=pod_ok hp
 have kr0:=k.r0; have kr1:=k.r1; have kr2:=k.r2; have kh0:=k.h0; have kh1:=k.h1; have kh2:=k.h2; have kg0:=k.g0; have kg1:=k.g1; have kg2:=k.g2
 have hbox:=hw.box
 have hpod:=hpd.pod
 have lo:=hpd.lo; have hhi:=hpd.hi; have hnx:=hw.next; have hlm:=hw.lim
 have hbw:RowsV intC w bv bits:=hb.old hw.old (by omega)
 have r41:=rule41m (fm:=fm) h41 (3 * (i:Int) + 2) hbw hbl
 have r38:=rule38g (fm:=fm) h38 (lo:=p.gl) (hi:=p.gh) (nthI bits (3 * (i:Int) + 2)) (by omega) (by omega) w
 obtain ⟨v',w1,B',ha,hacc,hk,hB',hn1,hl1⟩:=int_push hw.ag (by omega) hw.next (by omega) (withI p.gl p.gh (nthI bits (3 * (i:Int) + 2)))
 obtain ⟨n',hv'⟩:∃ n',v'=.slice (some ⟨B',0,none⟩) n' n':=by
  rcases hacc with ⟨h,_⟩ | ⟨h,_⟩
  ·exact absurd h (by simp)
  ·exact ⟨_,h⟩
 subst hv'
 have wm:IntKind.wrap .i64 (3 * (i:Int))=3 * (i:Int):=wrap64_in (by omega) (by omega)
 have wm2:IntKind.wrap .i64 (3 * (i:Int) + 2)=3 * (i:Int) + 2:=wrap64_in (by omega) (by omega)
 have sv:=hw.ag.same
 have hbr:w0.next + 1=Bg→Bg=0:=fun e=>by
  rcases hw.ag with ⟨_,_,h⟩ | ⟨_,_,h,_⟩
  ·exact h
  ·omega
 have hbr0:w0.next=Bg→Bg=0:=fun e=>by
  rcases hw.ag with ⟨_,_,h⟩ | ⟨_,_,h,_⟩
  ·exact h
  ·omega
 have hbox1:w1.heap.get (w0.next + 1)=some (.cells [vr,vh,vg] 35 false):=by rw [hk _ hnx hbr]; exact hbox
 have hpod1:w1.heap.get pb=some (.cells (podC p) 30 false):=by rw [hk _ hhi fun e=>absurd e hpd.sg]; exact hpod
 have m1:¬ w0.next + 1=w.next:=by omega
 have m2:¬ pb=w.next:=by omega
 have l1:w1.lim≤w0.next + 1:=by omega
 have c2:∀ h,(podC p)[6]'h=.int .i64 p.gl:=fun _=>rfl
 have c3:∀ h,(podC p)[7]'h=.int .i64 p.gh:=fun _=>rfl
 simp [mc34_p2,t1,t5,t6,t7,hbox,hpod,c2,c3,wm,wm2,r41,r38,m1,m2,sv,ha,hbox1,l1,sameN_int]
 refine hQ _ _ (.slice (some ⟨B',0,none⟩) n' n') B' ⟨fun b hb=>?_,?_,?_,?_,?_,?_,hw.rh,?_,?_,?_,?_⟩ ⟨?_,lo,?_,hpd.sr,hpd.sh,?_⟩ ?_ ?_ ?_ ?_ ?_ ?_
 ·have q:¬ b=w0.next + 1:=by omega
  rw [get_put,if_neg q,hk b (by omega) fun e=>?_,hw.old b hb]
  rcases hw.ag with ⟨_,_,h⟩ | ⟨_,_,h,_⟩
  ·exact h
  ·omega
 ·simp [hk _ (show w0.next < w.next by omega) hbr0,hw.res]
 ·simp
 ·exact hw.ar.keep (B0:=Bg) (fun x h1 h2 h3=>by simp [show ¬ x=w0.next + 1 by omega,hk x h1 h2]) hn1 (fun h=>by have:=hw.rg h; omega)
 ·exact hw.ah.keep (B0:=Bg) (fun x h1 h2 h3=>by simp [show ¬ x=w0.next + 1 by omega,hk x h1 h2]) hn1 (fun h=>by have:=hw.hg h; omega)
 ·exact hacc.keep (B0:=0) (fun x _ _ h=>by simp [show ¬ x=w0.next + 1 by omega]) (Nat.le_refl _) (fun h=>h)
 ·intro h; have:=hw.ar.lt (by omega); omega
 ·intro h; have:=hw.ah.lt (by omega); omega
 ·show w0.next + 1 < w1.next; omega
 ·show w1.lim=w0.lim; omega
 ·simp [show ¬ pb=w0.next + 1 by omega,hpod1]
 ·show pb < w1.next; omega
 ·omega
 ·simp [t0]
 ·simp [t1]
 ·simp [t4]
 ·simp [t5]
 ·simp [t6]
 ·simp [t7]
end Go.Proofs.YtaiiampennkhiaaDoor.walk
