/-
  rostellumlaw06.CureLimit (pods that were cured by the acts of Plan have a moisture within the limit, in every truth; no fewer acts surely have, nor as many that come before them) answers true whatever the rule, the days, the box, the acts, the limit and the numbers are, and they read behind the call as before.
  Conditions: those of the given row alone (its listed variable of the program holds what its initialiser lays; the card ties it to the text of the program).
  How: a machine of its own (the texts Sh) is proved to say of each call what the model does, whatever order is drawn; each function is said by a relation (CW), the search of Plan, which calls itself inside a range over a function and keeps what it knows in a map, by what is left to do (CX4 to CX8). That it does not matter on which day what was lost, and that the search finds the fewest acts, of several the first ones, is arithmetic (CX1, CX2).
-/
import Derived.Test.YtnmamelclmfplaaDoorTi
import Derived.Test.YtnmamelclmfplaaDoorShF
import Derived.Test.YtnmamelclmfplaaDoorTj
import Derived.Test.YtnmamelclmfplaaDoorTd
import Derived.Test.YtnmamelclmfplaaDoorCards
import Derived.Test.YtnmamelclmfplaaDoorTie
import Derived.WalkKit
import Derived.ProofKit
import Derived.OpenShut
import Derived.Deep.DeepHandedRow
import Derived.Deep.DeepWitnessRowRef
set_option linter.all false
namespace Go.Proofs.YtnmamelclmfplaaDoor.walk
open Go Go.Sh
set_option maxRecDepth 100000
theorem OutV.push {base:Nat} {w:AW} {uv:Value} {out:List Int} (h:OutV base w uv out) (hl:w.lim≤base) (hb:base≤w.next) (hlen:out.length≤1000) (y:Int) :
  ∃ v' w',append1 Tryd.prog ⟨w.heap.put w.next (some (.cells [.int .i64 y] 3 false)),w.next + 1,w.lim⟩ [28,28] [uv,.slice (some ⟨w.next,0,none⟩) 1 1]=.val v' w'∧OutV base w' v' (out++[y])∧(∀ x,x < base→w'.heap.get x=w.heap.get x)∧w.next≤w'.next∧w'.lim=w.lim:=by
 have hsrc:srcCells ⟨w.heap.put w.next (some (.cells [.int .i64 y] 3 false)),w.next + 1,w.lim⟩ 1 (.slice (some ⟨w.next,0,none⟩) 1 1)=some [.int .i64 y]:=src_row (e':=3) (ro:=false) (k:=1) (by simp) (by simp) (by decide) (by decide)
 rcases h with ⟨rfl,rfl⟩ | ⟨B,cs,rfl,hB,k1,k2,ho⟩
 ·refine ⟨_,_,append_nil list28 elem28 sz3 small3 (m:=1) rfl hsrc (by simp) (by decide) (by decide),.inr ⟨_,[y],rfl,?_,?_,?_,by simp⟩,fun x hx=>?_,?_,rfl⟩
  ·simp [intC]
  ·show base≤w.next + 1; omega
  ·exact Nat.lt_succ_self _
  ·show ((w.heap.put w.next _).put (w.next + 1) _).get x=_
   rw [get_put,if_neg (by omega),get_put,if_neg (by omega)]
  ·show w.next≤w.next + 1 + 1; omega
 ·have hB':(w.heap.put w.next (some (.cells [.int .i64 y] 3 false))).get B=some (.cells (cs.flatMap intC) 3 false):=by rw [get_put,if_neg (by omega)]; exact hB
  have hn:out.length≤cs.length:=by
   have:=congrArg List.length ho
   rw [List.length_take] at this; omega
  have hfl:(cs.flatMap intC).length=cs.length:=by rw [flat_length (m:=1) intC_length]; omega
  by_cases hfull:out.length=cs.length
  ·have hoc:out=cs:=by rw [ho,hfull,List.take_length]
   have e:(Value.slice (some ⟨B,0,none⟩) out.length cs.length)=.slice (some ⟨B,0,none⟩) cs.length cs.length:=by rw [hfull]
   rw [e]
   refine ⟨_,_,append_full list28 elem28 sz3 small3 (n:=cs.length) (m:=1) (c:=cs.flatMap intC) rfl hsrc (by simp) (by simp) (by decide) (by omega) hB' (by rw [hfl]; omega) (by show w.lim≤B; omega),.inr ⟨w.next + 1,cs++[y],?_,?_,?_,?_,?_⟩,fun x hx=>?_,?_,rfl⟩
   ·simp [hoc]
   ·show (((w.heap.put w.next _).put B none).put (w.next + 1) _).get (w.next + 1)=_
    rw [get_put,if_pos rfl]; simp [intC]
   ·show base≤w.next + 1; omega
   ·exact Nat.lt_succ_self _
   ·rw [hoc,List.take_of_length_le (Nat.le_refl _)]
   ·show (((w.heap.put w.next _).put B none).put (w.next + 1) _).get x=_
    rw [get_put,if_neg (by omega),get_put,if_neg (by omega),get_put,if_neg (by omega)]
   ·show w.next≤w.next + 1 + 1; omega
  ·have hlt:out.length < cs.length:=by omega
   have e1:Nat.ble (out.length + 1) 1000000=true:=Nat.ble_eq_true_of_le (by omega)
   have e2:Nat.ble (out.length + 1) cs.length=true:=Nat.ble_eq_true_of_le (by omega)
   refine ⟨_,⟨(w.heap.put w.next (some (.cells [.int .i64 y] 3 false))).put B (some (.cells ((cs.set out.length y).flatMap intC) 3 false)),w.next + 1,w.lim⟩,?_,.inr ⟨B,cs.set out.length y,rfl,?_,k1,?_,?_⟩,fun x hx=>?_,?_,rfl⟩
   ·rw [append_eq list28 elem28 sz3 small3,hsrc]
    have hlB:w.lim≤B:=by omega
    have hs:=flat_set (f:=intC) (m:=1) intC_length cs out.length y hlt
    simp only [Nat.mul_one,intC] at hs
    simp [lenA,e1,appendB,e2,hB',hlB,hfl,hlt,Nat.succ_le_of_lt hlt]
    rw [← hs]
    rfl
   ·show ((w.heap.put w.next _).put B _).get B=_
    rw [get_put,if_pos rfl]
   ·show B < w.next + 1; omega
   ·rw [List.length_append,List.length_singleton]
    conv=>lhs; rw [ho]
    apply List.ext_getElem?
    intro i
    rw [List.getElem?_append,List.getElem?_take,List.length_take,Nat.min_eq_left hn]
    by_cases h1:i < out.length
    ·rw [if_pos h1,if_pos h1,List.getElem?_take,if_pos (by omega),List.getElem?_set,if_neg (by omega)]
    ·by_cases h2:i=out.length
     ·subst h2; simp [hlt]
     ·rw [if_neg h1,List.getElem?_take,if_neg (by omega),List.getElem?_eq_none (by simp; omega)]
   ·show ((w.heap.put w.next _).put B _).get x=_
    rw [get_put,if_neg (by omega),get_put,if_neg (by omega)]
   ·show w.next≤w.next + 1; omega
theorem OutV.cut {base:Nat} {w:AW} {uv:Value} {out:List Int} {y:Int} (h:OutV base w uv (out++[y])) :
  ∃ uv',sliceA Tryd.prog w 28 uv none (some (.int .i64 (out.length:Int))) none=.val uv' w∧OutV base w uv' out:=by
 rcases h with ⟨_,h⟩ | ⟨B,cs,rfl,hB,k1,k2,ho⟩
 ·simp at h
 ·have hn:out.length + 1≤cs.length:=by
   have:=congrArg List.length ho
   simp only [List.length_append,List.length_singleton,List.length_take] at this; omega
  have hb:Nat.ble out.length cs.length=true:=Nat.ble_eq_true_of_le (by omega)
  refine ⟨.slice (some ⟨B,0,none⟩) out.length cs.length,?_,.inr ⟨B,cs,rfl,hB,k1,k2,?_⟩⟩
  ·show sliceA Tryd.prog w 28 (.slice (some ⟨B,0,none⟩) (out++[y]).length cs.length) none (some (.int .i64 (Int.ofNat out.length))) none=_
   simp [sliceA,sliceB1,elem28,sz3,sliceRow,boundA,hb,cutR,cutAddr,rowElem,hB]
  ·have:=congrArg (List.take out.length) ho
   rw [List.take_left,List.take_take,List.length_append,List.length_singleton,Nat.min_eq_left (by omega)] at this
   exact this
theorem OutV.len {base:Nat} {w:AW} {uv:Value} {out:List Int} (h:OutV base w uv out):∃ a c,uv=.slice a out.length c:=h.rows.len
/-! leaveOut, in full -/
structure EnvL (b:CBox) (L:List Sp) (l:List CRead) (pv lv:Value) (B2 B3 B4 B5 base:Nat) (w0 we:AW):Prop where
 u0:Up w0 we
 g2:we.heap.get B2=some (.cells (procC b pv) 97 false)
 g3:we.heap.get B3=some (.cells [lv] 42 false)
 g5:we.heap.get B5=some (.cells [.func (.func 90) ⟨[]⟩ ⟨[.pointer (some ⟨B2,0,none⟩),.pointer (some ⟨B3,0,none⟩),.pointer (some ⟨B4,0,none⟩),.pointer (some ⟨B5,0,none⟩)]⟩] 73 false)
 hb:base≤we.next
theorem EnvL.keep {b:CBox} {L:List Sp} {l:List CRead} {pv lv:Value} {B2 B3 B4 B5 base:Nat} {w0 we w:AW} (h:EnvL b L l pv lv B2 B3 B4 B5 base w0 we) (k:KpB base B4 we w) (d0:w0.next≤B4) (d1:w0.next≤base) (d2:B2 < base∧B2 ≠ B4) (d3:B3 < base∧B3 ≠ B4) (d5:B5 < base∧B5 ≠ B4):EnvL b L l pv lv B2 B3 B4 B5 base w0 w :=
 ⟨⟨fun q hq=>(k.old q (by omega) (by omega)).trans (h.u0.old q hq),Nat.le_trans h.u0.next k.next,k.lim.trans h.u0.lim⟩,(k.old _ d2.1 d2.2).trans h.g2,(k.old _ d3.1 d3.2).trans h.g3,(k.old _ d5.1 d5.2).trans h.g5,Nat.le_trans h.hb k.next⟩
theorem lexL_eq:∀ {a b:List Int} {i:Nat},a.take i=b.take i→i≤a.length→i≤b.length→lexL a b=lexL (a.drop i) (b.drop i)
 | a,b,0,_,_,_=>rfl
 | [],b,i + 1,_,h,_=>by simp at h
 | a,[],i + 1,_,_,h=>by simp at h
 | x::a,y::b,i + 1,h,h1,h2=>by
  simp only [List.take_succ_cons,List.cons.injEq] at h
  obtain ⟨rfl,h⟩:=h
  simp only [lexL,if_true,List.drop_succ_cons]
  exact lexL_eq h (by simpa using h1) (by simpa using h2)
def S43:PSpec where
 R args w v:=∃ (av bv:Value) (a b:List Int),args=[av,bv]∧RowsV intC w av a∧RowsV intC w bv b∧a.length≤1000∧b.length≤1000∧v=.bool (lexL a b)
 uniq:=by
  rintro _ _ _ _ ⟨_,_,a,b,rfl,h1,h2,_,_,rfl⟩ ⟨_,_,a',b',h,k1,k2,_,_,rfl⟩
  cases h
  rw [h1.uniq (m:=1) intC_length intC_inj k1,h2.uniq (m:=1) intC_length intC_inj k2]
 shut h:=h
theorem run43 {ov:Ov} (ho:∀ args w,ov 43 args w=none) (av bv:Value) (a b:List Int) (w:AW) (hav:RowsV intC w av a) (hbv:RowsV intC w bv b) (hal:a.length≤1000) (_:b.length≤1000):∃ y w',(run Tryd.prog ov 2).call 43 [av,bv] w .none=.ok (.ret y) w' .none∧y=.bool (lexL a b):=by
 refine call_wp text43 (by simp) (ho _ _) ?_
 have hl:=fun w2=>len28V (w':=w2) hav
 have hk:=fun w2=>len28V (w':=w2) hbv
 simp [mc43]
 refine wp_seqX (wp_blockX (wp_rounds (fun i t w'=>w'=w∧tget t 0=av∧tget t 1=bv∧tget t 5=.int .i64 (i:Nat)∧i≤a.length∧i≤b.length∧a.take i=b.take i) 2000 (by decide) ⟨rfl,by simp,by simp,by simp,Nat.zero_le _,Nat.zero_le _,by simp⟩ ?_))
 rintro i t w' ⟨rfl,t0,t1,t5,hi,hj,he⟩
 have hlex:=lexL_eq he hi hj
 by_cases hlt:i < a.length∧i < b.length
 ·obtain ⟨h1,h2⟩:=hlt
  obtain ⟨x,hx⟩:∃ p,a[i]?=some p:=⟨_,List.getElem?_eq_getElem h1⟩
  obtain ⟨y,hy⟩:∃ p,b[i]?=some p:=⟨_,List.getElem?_eq_getElem h2⟩
  obtain ⟨bb,off,sq,c,rfl,hra⟩:=hav.at_ i h1
  obtain ⟨bb2,off2,sq2,c2,rfl,hrb⟩:=hbv.at_ i h2
  have hld:=hra.int hx
  have hlb:=hrb.int hy
  have hia:=fun w=>ia28 w ⟨bb,off,sq⟩ a.length c .i64 i h1
  have hib:=fun w=>ia28 w ⟨bb2,off2,sq2⟩ b.length c2 .i64 i h2
  simp only [Nat.mul_one] at hia hib
  have hw1:IntKind.wrap .i64 ((i:Int) + 1)=(i:Int) + 1:=wrap64_in (by omega) (by omega)
  have hmin:(i:Int) < min (a.length:Int) (b.length:Int):=by omega
  have hda:a.drop i=x::a.drop (i + 1):=by rw [List.drop_eq_getElem_cons h1]; congr 1; rw [List.getElem?_eq_getElem h1] at hx; simpa using hx
  have hdb:b.drop i=y::b.drop (i + 1):=by rw [List.drop_eq_getElem_cons h2]; congr 1; rw [List.getElem?_eq_getElem h2] at hy; simpa using hy
  rw [hda,hdb] at hlex
  by_cases e:x=y
  ·subst e
   simp [mc43_l0,t0,t1,t5,hl,hk,hmin,hia,hib,hld,hlb,hw1]
   exact ⟨by omega,h1,h2,by rw [take_snoc hx,take_snoc hy,he]⟩
  ·rw [show lexL (x::a.drop (i + 1)) (y::b.drop (i + 1))=decide (x < y) by simp [lexL,e]] at hlex
   simp [mc43_l0,t0,t1,t5,hl,hk,hmin,hia,hib,hld,hlb,e,tupV,hlex]
 ·have hmin:¬ (i:Int) < min (a.length:Int) (b.length:Int):=by omega
  have hend:lexL a b=decide (a.length < b.length):=by
   rw [hlex]
   by_cases h1:i < a.length
   ·have:i=b.length:=by omega
    subst this
    rw [List.drop_length,List.drop_eq_getElem_cons h1]
    simp [lexL]; omega
   ·have:i=a.length:=by omega
    subst this
    rw [List.drop_length]
    by_cases h2:a.length < b.length
    ·rw [List.drop_eq_getElem_cons h2]; simp [lexL,h2]
    ·rw [List.drop_eq_nil_of_le (by omega)]; simp [lexL]; omega
  simp [mc43_l0,t0,t1,t5,hl,hk,hmin,tupV,hend]
noncomputable def mc8_r2:MC:=.seq (.seq (.ops [⟨true,none,some 121,0,.fieldAddr 30 (.tmp 11) 0⟩]) (.seq (.ops [⟨true,none,some 122,22,.load 22 (.tmp 121)⟩]) (.seq (.ops [⟨true,none,some 123,0,.fieldAddr 30 (.tmp 11) 1⟩]) (.seq (.ops [⟨true,none,some 124,23,.load 23 (.tmp 123)⟩]) (.seq (.ops [⟨true,none,some 125,0,.fieldAddr 30 (.tmp 11) 2⟩]) (.seq (.ops [⟨true,none,some 126,27,.load 27 (.tmp 125)⟩]) (.seq (.ops [⟨true,none,some 127,0,.fieldAddr 30 (.tmp 11) 3⟩]) (.seq (.ops [⟨true,none,some 128,28,.load 28 (.tmp 127)⟩]) (.seq (.ops [⟨true,none,some 129,30,.load 30 (.tmp 11)⟩]) (.seq (.ops [⟨true,none,some 130,28,.move (.tmp 2)⟩]) (.seq (.ops [⟨false,none,some 131,32,.call ⟨.value (.func 34),#[.tmp 129,.tmp 130],#[30,28]⟩⟩]) (.seq (.chk [⟨true,none,some 128,28,.load 28 (.tmp 127)⟩,⟨true,none,some 126,27,.load 27 (.tmp 125)⟩,⟨true,none,some 124,23,.load 23 (.tmp 123)⟩,⟨true,none,some 122,22,.load 22 (.tmp 121)⟩]) (.seq (.ops [⟨false,none,some 132,37,.call ⟨.value (.func 16),#[.tmp 122,.tmp 124,.tmp 126,.tmp 128,.tmp 131],#[22,23,27,28,32]⟩⟩]) (.seq (.ops [⟨true,none,some 120,37,.move (.tmp 132)⟩]) (.seq (.ops [⟨true,none,some 133,28,.extract (.tmp 120) 0⟩]) (.seq (.ops [⟨true,none,some 134,28,.extract (.tmp 120) 1⟩]) (.seq (.ops [⟨true,none,some 135,33,.extract (.tmp 120) 2⟩]) (.seq (.ops [⟨true,none,some 13,28,.assign (.tmp 133)⟩]) (.seq (.ops [⟨true,none,some 14,28,.assign (.tmp 134)⟩]) (.seq (.ops [⟨true,none,some 10,33,.assign (.tmp 135)⟩]) (.chk []))))))))))))))))))))) (.seq (.seq (.ops [⟨false,none,some 136,33,.move (.tmp 10)⟩,⟨false,none,some 137,4,.binOp .neq 33 (.tmp 136) (.const (.int .i64 0)) 33⟩]) (.cond (.tmp 137) (.seq (.ops [⟨false,none,some 138,33,.move (.tmp 10)⟩,⟨false,none,some 139,4,.binOp .eql 33 (.tmp 138) (.const (.int .i64 66)) 33⟩,⟨false,none,some 140,4,.move (.tmp 139)⟩,⟨false,some (140,true),some 141,4,.call ⟨.value (.func 19),#[],#[]⟩⟩,⟨false,none,some 142,4,.pick (.tmp 140) (.tmp 141) (.const (.bool false))⟩,⟨false,none,some 6,4,.assign (.tmp 142)⟩]) (.ret)) (.skip))) (.seq (.ops [⟨true,none,some 143,28,.move (.tmp 14)⟩,⟨true,none,some 144,3,.call ⟨.builtin .len,#[.tmp 143],#[28]⟩⟩,⟨true,none,some 145,28,.move (.tmp 7)⟩,⟨true,none,some 146,3,.call ⟨.builtin .len,#[.tmp 145],#[28]⟩⟩,⟨true,none,some 147,3,.binOp .add 3 (.tmp 146) (.const (.int .i64 1)) 3⟩,⟨true,none,some 148,4,.binOp .eql 3 (.tmp 144) (.tmp 147) 3⟩,⟨true,none,some 149,4,.move (.tmp 148)⟩,⟨true,some (149,true),some 150,28,.move (.tmp 14)⟩,⟨true,some (149,true),some 151,28,.move (.tmp 7)⟩,⟨true,some (149,true),some 152,3,.call ⟨.builtin .len,#[.tmp 151],#[28]⟩⟩,⟨true,some (149,true),some 153,0,.indexAddr 28 (.tmp 150) (.tmp 152)⟩,⟨true,some (149,true),some 154,3,.load 3 (.tmp 153)⟩,⟨true,some (149,true),some 155,0,.fieldAddr 25 (.tmp 4) 0⟩,⟨true,some (149,true),some 156,3,.load 3 (.tmp 155)⟩,⟨true,some (149,true),some 157,0,.fieldAddr 25 (.tmp 4) 1⟩,⟨true,some (149,true),some 158,3,.load 3 (.tmp 157)⟩,⟨false,some (149,true),some 159,4,.call ⟨.value (.func 39),#[.tmp 154,.tmp 156,.tmp 158],#[3,3,3]⟩⟩,⟨true,none,some 160,4,.pick (.tmp 149) (.tmp 159) (.const (.bool false))⟩,⟨true,none,some 161,4,.move (.tmp 160)⟩,⟨false,some (161,true),some 162,4,.call ⟨.value (.func 19),#[],#[]⟩⟩,⟨true,none,some 163,4,.pick (.tmp 161) (.tmp 162) (.const (.bool false))⟩,⟨true,none,some 6,4,.assign (.tmp 163)⟩]) (.ret)))
noncomputable def mc8_r1:MC:=.seq (.ops [⟨false,none,some 94,30,.load 30 (.tmp 3)⟩,⟨false,none,some 11,0,.alloc 30⟩,⟨false,none,none,0,.store 30 (.tmp 11) (.tmp 94)⟩]) (.seq (.ops [⟨false,none,some 95,28,.move (.tmp 7)⟩,⟨false,none,some 96,0,.fieldAddr 30 (.tmp 11) 3⟩,⟨false,none,none,0,.store 28 (.tmp 96) (.tmp 95)⟩]) (.seq (.ops [⟨false,none,some 98,0,.fieldAddr 30 (.tmp 3) 0⟩,⟨false,none,some 99,22,.load 22 (.tmp 98)⟩,⟨false,none,some 100,0,.fieldAddr 30 (.tmp 3) 1⟩,⟨false,none,some 101,23,.load 23 (.tmp 100)⟩,⟨false,none,some 102,0,.fieldAddr 30 (.tmp 3) 2⟩,⟨false,none,some 103,27,.load 27 (.tmp 102)⟩,⟨false,none,some 104,28,.move (.tmp 7)⟩,⟨false,none,some 105,25,.load 25 (.tmp 4)⟩,⟨false,none,some 106,34,.call ⟨.value (.func 29),#[.tmp 99,.tmp 101,.tmp 103,.tmp 104,.tmp 105],#[22,23,27,28,25]⟩⟩,⟨false,none,some 97,34,.move (.tmp 106)⟩,⟨false,none,some 107,4,.extract (.tmp 97) 0⟩,⟨false,none,some 108,33,.extract (.tmp 97) 1⟩,⟨false,none,some 12,4,.assign (.tmp 107)⟩,⟨false,none,some 10,33,.assign (.tmp 108)⟩]) (.seq (.seq (.ops [⟨false,none,some 109,33,.move (.tmp 10)⟩,⟨false,none,some 110,4,.binOp .neq 33 (.tmp 109) (.const (.int .i64 0)) 33⟩,⟨false,none,some 111,4,.move (.tmp 110)⟩,⟨false,some (111,false),some 112,4,.move (.tmp 12)⟩,⟨false,some (111,false),some 113,4,.unOp .not 4 (.tmp 112)⟩,⟨false,none,some 114,4,.pick (.tmp 111) (.const (.bool true)) (.tmp 113)⟩,⟨false,none,some 115,4,.move (.tmp 114)⟩,⟨false,some (115,false),some 116,30,.load 30 (.tmp 11)⟩,⟨false,some (115,false),some 117,4,.call ⟨.value (.func 33),#[.tmp 116],#[30]⟩⟩,⟨false,some (115,false),some 118,4,.unOp .not 4 (.tmp 117)⟩,⟨false,none,some 119,4,.pick (.tmp 115) (.const (.bool true)) (.tmp 118)⟩]) (.cond (.tmp 119) (.seq (.ops [⟨false,none,some 6,4,.assign (.const (.bool false))⟩]) (.ret)) (.skip))) mc8_r2)))
theorem mc8_eq:mc8=.seq (.ops [⟨false,none,some 3,0,.box 30 (.tmp 0)⟩,⟨false,none,some 4,0,.box 25 (.tmp 1)⟩,⟨false,none,some 6,4,.assign (.const (.bool false))⟩]) (.seq (.ops [⟨false,none,some 16,0,.fieldAddr 30 (.tmp 3) 0⟩,⟨false,none,some 17,22,.load 22 (.tmp 16)⟩,⟨false,none,some 18,0,.fieldAddr 30 (.tmp 3) 1⟩,⟨false,none,some 19,23,.load 23 (.tmp 18)⟩,⟨false,none,some 20,0,.fieldAddr 30 (.tmp 3) 2⟩,⟨false,none,some 21,27,.load 27 (.tmp 20)⟩,⟨false,none,some 22,25,.load 25 (.tmp 4)⟩,⟨false,none,some 23,49,.call ⟨.value (.func 31),#[.tmp 17,.tmp 19,.tmp 21,.tmp 22],#[22,23,27,25]⟩⟩,⟨false,none,some 15,49,.move (.tmp 23)⟩,⟨false,none,some 24,28,.extract (.tmp 15) 0⟩,⟨false,none,some 25,33,.extract (.tmp 15) 1⟩,⟨false,none,some 7,28,.assign (.tmp 24)⟩,⟨false,none,some 8,33,.assign (.tmp 25)⟩]) (.seq (.ops [⟨false,none,some 27,0,.fieldAddr 30 (.tmp 3) 0⟩,⟨false,none,some 28,22,.load 22 (.tmp 27)⟩,⟨false,none,some 29,0,.fieldAddr 30 (.tmp 3) 1⟩,⟨false,none,some 30,23,.load 23 (.tmp 29)⟩,⟨false,none,some 31,0,.fieldAddr 30 (.tmp 3) 2⟩,⟨false,none,some 32,27,.load 27 (.tmp 31)⟩,⟨false,none,some 33,0,.fieldAddr 30 (.tmp 3) 3⟩,⟨false,none,some 34,28,.load 28 (.tmp 33)⟩,⟨false,none,some 35,25,.load 25 (.tmp 4)⟩,⟨false,none,some 36,34,.call ⟨.value (.func 29),#[.tmp 28,.tmp 30,.tmp 32,.tmp 34,.tmp 35],#[22,23,27,28,25]⟩⟩,⟨false,none,some 26,34,.move (.tmp 36)⟩,⟨false,none,some 37,4,.extract (.tmp 26) 0⟩,⟨false,none,some 38,33,.extract (.tmp 26) 1⟩,⟨false,none,some 9,4,.assign (.tmp 37)⟩,⟨false,none,some 10,33,.assign (.tmp 38)⟩]) (.seq (.seq (.ops [⟨false,none,some 39,33,.move (.tmp 8)⟩,⟨false,none,some 40,4,.binOp .neq 33 (.tmp 39) (.const (.int .i64 0)) 33⟩,⟨false,none,some 41,4,.move (.tmp 40)⟩,⟨false,some (41,true),some 42,33,.move (.tmp 8)⟩,⟨false,some (41,true),some 43,4,.binOp .neq 33 (.tmp 42) (.const (.int .i64 4)) 33⟩,⟨false,none,some 44,4,.pick (.tmp 41) (.tmp 43) (.const (.bool false))⟩]) (.cond (.tmp 44) (.seq (.ops [⟨false,none,some 45,28,.move (.tmp 7)⟩,⟨false,none,some 46,3,.call ⟨.builtin .len,#[.tmp 45],#[28]⟩⟩,⟨false,none,some 47,4,.binOp .eql 3 (.tmp 46) (.const (.int .i64 0)) 3⟩,⟨false,none,some 48,4,.move (.tmp 47)⟩,⟨false,some (48,true),some 49,33,.move (.tmp 10)⟩,⟨false,some (48,true),some 50,4,.binOp .neq 33 (.tmp 49) (.const (.int .i64 0)) 33⟩,⟨false,none,some 51,4,.pick (.tmp 48) (.tmp 50) (.const (.bool false))⟩,⟨false,none,some 52,4,.move (.tmp 51)⟩,⟨false,some (52,true),some 53,4,.call ⟨.value (.func 19),#[],#[]⟩⟩,⟨false,none,some 54,4,.pick (.tmp 52) (.tmp 53) (.const (.bool false))⟩,⟨false,none,some 6,4,.assign (.tmp 54)⟩]) (.ret)) (.skip))) (.seq (.seq (.ops [⟨false,none,some 55,33,.move (.tmp 10)⟩,⟨false,none,some 56,4,.binOp .eql 33 (.tmp 55) (.const (.int .i64 0)) 33⟩,⟨false,none,some 57,4,.move (.tmp 56)⟩,⟨false,some (57,true),some 58,4,.move (.tmp 9)⟩,⟨false,none,some 59,4,.pick (.tmp 57) (.tmp 58) (.const (.bool false))⟩,⟨false,none,some 60,4,.move (.tmp 59)⟩,⟨false,some (60,true),some 61,33,.move (.tmp 8)⟩,⟨false,some (60,true),some 62,4,.binOp .neq 33 (.tmp 61) (.const (.int .i64 0)) 33⟩,⟨false,some (60,true),some 63,4,.move (.tmp 62)⟩,⟨false,some (63,false),some 64,0,.fieldAddr 30 (.tmp 3) 3⟩,⟨false,some (63,false),some 65,28,.load 28 (.tmp 64)⟩,⟨false,some (63,false),some 66,3,.call ⟨.builtin .len,#[.tmp 65],#[28]⟩⟩,⟨false,some (63,false),some 67,28,.move (.tmp 7)⟩,⟨false,some (63,false),some 68,3,.call ⟨.builtin .len,#[.tmp 67],#[28]⟩⟩,⟨false,some (63,false),some 69,4,.binOp .lss 3 (.tmp 66) (.tmp 68) 3⟩,⟨false,some (60,true),some 70,4,.pick (.tmp 63) (.const (.bool true)) (.tmp 69)⟩,⟨false,some (60,true),some 71,4,.move (.tmp 70)⟩,⟨false,some (71,false),some 72,0,.fieldAddr 30 (.tmp 3) 3⟩,⟨false,some (71,false),some 73,28,.load 28 (.tmp 72)⟩,⟨false,some (71,false),some 74,3,.call ⟨.builtin .len,#[.tmp 73],#[28]⟩⟩,⟨false,some (71,false),some 75,28,.move (.tmp 7)⟩,⟨false,some (71,false),some 76,3,.call ⟨.builtin .len,#[.tmp 75],#[28]⟩⟩,⟨false,some (71,false),some 77,4,.binOp .eql 3 (.tmp 74) (.tmp 76) 3⟩,⟨false,some (71,false),some 78,4,.move (.tmp 77)⟩,⟨false,some (78,true),some 79,0,.fieldAddr 30 (.tmp 3) 3⟩,⟨false,some (78,true),some 80,28,.load 28 (.tmp 79)⟩,⟨false,some (78,true),some 81,28,.move (.tmp 7)⟩,⟨false,some (78,true),some 82,4,.call ⟨.value (.func 43),#[.tmp 80,.tmp 81],#[28,28]⟩⟩,⟨false,some (71,false),some 83,4,.pick (.tmp 78) (.tmp 82) (.const (.bool false))⟩,⟨false,some (60,true),some 84,4,.pick (.tmp 71) (.const (.bool true)) (.tmp 83)⟩,⟨false,none,some 85,4,.pick (.tmp 60) (.tmp 84) (.const (.bool false))⟩]) (.cond (.tmp 85) (.seq (.ops [⟨false,none,some 6,4,.assign (.const (.bool false))⟩]) (.ret)) (.skip))) (.seq (.seq (.ops [⟨false,none,some 86,33,.move (.tmp 8)⟩,⟨false,none,some 87,4,.binOp .neq 33 (.tmp 86) (.const (.int .i64 0)) 33⟩]) (.cond (.tmp 87) (.seq (.ops [⟨false,none,some 88,28,.move (.tmp 7)⟩,⟨false,none,some 89,3,.call ⟨.builtin .len,#[.tmp 88],#[28]⟩⟩,⟨false,none,some 90,4,.binOp .eql 3 (.tmp 89) (.const (.int .i64 0)) 3⟩,⟨false,none,some 91,4,.move (.tmp 90)⟩,⟨false,some (91,true),some 92,4,.call ⟨.value (.func 19),#[],#[]⟩⟩,⟨false,none,some 93,4,.pick (.tmp 91) (.tmp 92) (.const (.bool false))⟩,⟨false,none,some 6,4,.assign (.tmp 93)⟩]) (.ret)) (.skip))) mc8_r1))))):=rfl
theorem next_with {r:List CAct} {d:List CDay} {s s':Stg} {a:Int} (h:nextS r d s a=some s'):∃ x,r[a.toNat]?=some x∧s'.lo=s.lo + x.ll∧s'.hi=s.hi + x.lh:=by
 obtain ⟨i,rfl,hi⟩:=next_nat h
 obtain ⟨x,hx⟩:∃ x,r[i]?=some x:=⟨_,List.getElem?_eq_getElem hi⟩
 cases hd:d[s.done.toNat]? with
 | none=>unfold nextS at h; rw [hd] at h; cases h
 | some y =>
  rw [next_at hd hx] at h
  split at h
  ·cases Option.some.inj h
   exact ⟨x,by rw [Int.toNat_natCast]; exact hx,rfl,rfl⟩
  ·cases h
theorem stg_sum {r:List CAct} {d:List CDay}:∀ {acts:List Int} {s t:Stg},stgF r d s acts=some t→t.lo=s.lo + (sumS (lossL r acts)).1∧t.hi=s.hi + (sumS (lossL r acts)).2
 | [],s,t,h=>by
  have:s=t:=Option.some.inj h
  subst this
  show s.lo=s.lo + 0∧s.hi=s.hi + 0
  omega
 | a::bs,s,t,h=>by
  obtain ⟨s',h1,h2⟩:=stgF_cons h
  obtain ⟨x,hx,e1,e2⟩:=next_with h1
  have ih:=stg_sum h2
  have e:lossL r (a::bs)=(x.ll,x.lh)::lossL r bs:=by
   show (match r[a.toNat]? with | some x=>(x.ll,x.lh) | none=>(0,0))::lossL r bs=_
   rw [hx]
  rw [e]
  show t.lo=s.lo + (x.ll + (sumS (lossL r bs)).1)∧t.hi=s.hi + (x.lh + (sumS (lossL r bs)).2)
  omega
theorem sur_at {r:List CAct} {d:List CDay} {b:CBox} {acts:List Int} {lim:Sp} (h:actE r d b acts=0) {t:Stg} (ht:stgF r d startS acts=some t):surB b (lossL r acts) lim=soB b lim t:=by
 obtain ⟨hR,hD,hB,_,_⟩:=act_ofE h
 have hl:=stg_len hR ht
 have hd:=days_len hD
 have hs:=stg_sum ht
 have hst:StOk r acts t:=by
  rcases stg_can (d:=d) hR acts acts.length (Nat.le_refl _) with ⟨k,_⟩ | ⟨s,k1,_,k3⟩
  ·rw [List.take_length,ht] at k; cases k
  ·rw [List.take_length] at k1 k3
   rw [ht] at k1
   cases Option.some.inj k1
   exact k3
 have hh:=hst.hi
 have e1:(sumS (lossL r acts))=(t.lo,t.hi):=Prod.ext (by have:=hs.1; show _=t.lo; simp only [startS] at this; omega) (by have:=hs.2; show _=t.hi; simp only [startS] at this; omega)
 have:=sur_sum (lim:=lim) hB (by rw [lossL_length]; omega) (los_ok h) (by rw [e1]; show t.hi≤1000000; omega)
 rw [← this,e1]
 rfl
theorem act_at {r:List CAct} {d:List CDay} {b:CBox} {acts:List Int} (h:bxE r d b=0) {t:Stg} (ht:stgF r d startS acts=some t):actE r d b acts=0:=by
 unfold actE; rw [if_pos h,ht]
theorem act_no {r:List CAct} {d:List CDay} {b:CBox} {acts:List Int} (h:bxE r d b ≠ 0):actE r d b acts ≠ 0:=by
 unfold actE; rw [if_neg h]; exact h
structure Has8 (ov:Ov):Prop where
 hL:HasL ov
 o16:∀ args w,ov 16 args w=none
 o31:∀ args w,ov 31 args w=none
 o34:∀ args w,ov 34 args w=none
 o57:∀ args w,ov 57 args w=none
 o59:∀ args w,ov 59 args w=none
 o74:∀ args w,ov 74 args w=none
 o83:∀ args w,ov 83 args w=none
 h29:HasP ov 29 S29.F
 h33:HasP ov 33 S33.F
 h37:HasP ov 37 S37.F
 h39:HasP ov 39 S39.F
 h43:HasP ov 43 S43.F
 h48:HasP ov 48 S48g.F
 h56:HasP ov 56 S56.F
 h58:HasP ov 58 S58.F
 h70:HasP ov 70 S70.F
 h73:HasP ov 73 S73.F
 h84:HasP ov 84 S84.F
 hW:HasW ov
section
variable {ov:Ov} {r:List CAct} {d:List CDay} {b:CBox} {lim:Sp} {rv dv:Value}
theorem tail8b (M:Nat) (h:Has8 ov) (p bits:List Int) (hA:actE r d b p=0) (hS:surB b (lossL r p) lim=true) (hbl:bits.length≤2 ^ 60) (pv bv:Value) (w:AW) (hl:w.lim≤w.next) (hLim:LimW w) (hrv:RowsV actC w rv r) (hdv:RowsV cdayC w dv d) (hpv:RowsV intC w pv p) (hbv:RowsV intC w bv bits) (Y Z:Nat) (hY:Y < w.next) (hZ:Z < w.next) (gY:w.heap.get Y=some (.cells [rv,dv,.int .i64 b.wl,.int .i64 b.wh,.int .i64 b.sl,.int .i64 b.sh,pv] 30 false)) (gZ:w.heap.get Z=some (.cells [.int .i64 lim.1,.int .i64 lim.2] 25 false)) (Q:Ex→Tm→AW→Prop) (t:Tm) (t2:tget t 2=bv) (t4:tget t 4=.pointer (some ⟨Z,0,none⟩)) (t7:tget t 7=pv) (t11:tget t 11=.pointer (some ⟨Y,0,none⟩))
  (hQ:∀ t w,tget t 6=.bool true→Q .ret t w):wp (exM Tryd.prog (run Tryd.prog ov (M + 47)) mc8_r2 t w) Q:=by
 obtain ⟨hR,hD,hB,st,hst⟩:=act_ofE hA
 obtain ⟨hTok,h14,hact⟩:=tru_ok hA
 have hlos:=los_ok hA
 have hLl:(lossL r p).length=p.length:=lossL_length r p
 obtain ⟨v2,w2,c34,⟨lv,rfl,hlv⟩,u2⟩:=call34 (ov:=ov) (M + 45) h.o34 h.h37 h.h48 r d b p hact h14 (snd_los hR hact) bits hbl rv dv pv bv w hl hrv hpv hbv
 obtain ⟨ws,hwse⟩:∃ ws,ws=withG b.wl b.wh (nthI bits 0):=⟨_,rfl⟩
 obtain ⟨s,hse⟩:∃ s,s=withG b.sl b.sh (nthI bits 1):=⟨_,rfl⟩
 obtain ⟨ls,hlse⟩:∃ ls,ls=genL (losC r p bits) p.length:=⟨_,rfl⟩
 rw [← hwse,← hse] at c34
 rw [← hlse] at hlv
 have hlsl:ls.length=p.length:=by rw [hlse,genL_length]
 have hn2:=u2.next
 have hm2:=u2.lim
 obtain ⟨v4,w4,c16,⟨wv,mv,rfl,hwr,hmr,u4⟩⟩:=call16 (ov:=ov) (M + 44) h.o16 h.o57 h.o59 h.o83 h.h56 h.h58 h.h84 r d b p ws s ls rv dv pv lv w2 (by omega) (hLim.up u2) (hrv.up u2) (hdv.up u2) (hpv.up u2) hlv
 have u04:=u2.trans u4
 have gY2:=(u2.at hY).trans gY
 have gZ4:=(u04.at hZ).trans gZ
 have rW4:=ruleW h.hW (M + 46) (w:=w4) (hLim.up u04).1
 have hln:=fun w'=>len28V (w':=w') hpv
 have lj:∀ v,v ∈ [rv,dv,pv,lv]→sameVal 5 v v=true∧notJunk v=some v:=fun v hv=>by
  have:∃ a n c,v=.slice a n c:=by
   simp only [List.mem_cons,List.not_mem_nil,or_false] at hv
   rcases hv with rfl | rfl | rfl | rfl
   ·obtain ⟨a,c,e⟩:=hrv.len; exact ⟨a,_,c,e⟩
   ·obtain ⟨a,c,e⟩:=hdv.len; exact ⟨a,_,c,e⟩
   ·obtain ⟨a,c,e⟩:=hpv.len; exact ⟨a,_,c,e⟩
   ·obtain ⟨a,c,e⟩:=hlv.len; exact ⟨a,_,c,e⟩
  obtain ⟨a,n,c,rfl⟩:=this
  exact ⟨same_slice _ _ _,rfl⟩
 have jr:=lj rv (by simp)
 have jd:=lj dv (by simp)
 have jp:=lj pv (by simp)
 have jl:=lj lv (by simp)
 have sb:sameVal 5 (.agg ⟨[.int .i64 b.wl,.int .i64 b.wh,.int .i64 b.sl,.int .i64 b.sh]⟩) (.agg ⟨[.int .i64 b.wl,.int .i64 b.wh,.int .i64 b.sl,.int .i64 b.sh]⟩)=true:=same_agg _ (by
  intro v hv
  simp only [List.mem_cons,List.not_mem_nil,or_false] at hv
  rcases hv with rfl | rfl | rfl | rfl <;> exact sameN_int _ _ _)
 have jwm:∀ v l,RowsV intC w4 v l→notJunk v=some v:=fun v l hv=>by
  obtain ⟨a,c,rfl⟩:=hv.len; rfl
 have jw:=jwm wv _ hwr
 have jm:=jwm mv _ hmr
 have hE:folE r d b p ws s ls=if truB b (lossL r p) ws s ls=true then 0 else 66:=by unfold folE; rw [if_pos hA]
 simp only [boxC,curC,Nat.reduceAdd] at c34 c16
 cases hT:truB b (lossL r p) ws s ls with
 | false =>
  rw [hT,if_neg (by decide)] at hE
  rw [hE] at c16
  simp [mc8_r2,t2,t4,t7,t11,gY,cellsOf_agg,jr,jd,jp,jl,sb,c34,gY2,c16,jw,jm,rW4]
  exact hQ _ _ (by simp)
 | true =>
  rw [hT,if_pos rfl] at hE
  have eM:folM r d b p ws s ls=mosL ws s ls:=by unfold folM; rw [if_pos hE]
  rw [eM] at hmr
  rw [hE] at c16
  have hml:(mosL ws s ls).length=p.length + 1:=by unfold mosL; rw [List.length_map,wtsL_length,hlsl]
  have hTT:=hT
  simp only [truB,inI,Bool.and_eq_true,decide_eq_true_eq] at hTT
  obtain ⟨q1,q2,q3,q4,q5⟩:=hTT
  have sol:=tru_sol (l:=[]) hB (by omega) hlos hT (fun p hp=>by cases hp)
  obtain ⟨V,hV⟩:=wei_some (by omega) sol
  have ok:=weigh_ok hB hlos (by omega) hV
  obtain ⟨D,hDr,dok⟩:=dry_ok hlos (by omega) ok
  have hmo:=mo_in hlos (by omega) ok dok sol (k:=(lossL r p).length) (Nat.le_refl _)
  have hSS:=hS
  unfold surB at hSS
  rw [hV] at hSS
  simp only at hSS
  rw [hDr] at hSS
  simp only [Bool.and_eq_true,decide_eq_true_eq,lastM] at hSS
  have ex1:truX ws s ls ((lossL r p).length + 1)=s:=by unfold truX; rw [if_pos (by omega)]
  have hx:(mosL ws s ls)[p.length]?=some (moI (truX ws s ls (lossL r p).length) s):=by
   unfold mosL
   rw [List.getElem?_map,hLl,truX_at (by omega)]; rfl
  rw [ex1] at hmo
  obtain ⟨mo,hmoe⟩:∃ mo,mo=moI (truX ws s ls (lossL r p).length) s:=⟨_,rfl⟩
  rw [← hmoe] at hx hmo
  obtain ⟨B,off,sq,cp,emv,hra⟩:=hmr.at_ p.length (by omega)
  have hrd:=hra.int hx
  have hia:=fun w=>ia28 w ⟨B,off,sq⟩ (mosL ws s ls).length cp .i64 p.length (by omega)
  simp only [Nat.mul_one] at hia
  rw [hml] at hia emv
  have r39:=S39.call (P:=Tryd.prog) h.h39 (m:=M + 46) (w:=w4) ⟨mo,lim.1,lim.2,rfl,rfl⟩
  have s1:lim.1≤moI (gtS D (lossL r p).length).1 (gtS V ((lossL r p).length + 1)).2:=of_decide_eq_true hSS.1
  have s2:moI (gtS V (lossL r p).length).2 (gtS V ((lossL r p).length + 1)).1≤lim.2:=of_decide_eq_true hSS.2
  have e39:inI lim.1 mo lim.2=true:=by
   unfold inI
   rw [decide_eq_true (by omega),decide_eq_true (by omega)]; rfl
  rw [e39] at r39
  have wl:IntKind.wrap .i64 ((p.length:Int) + 1)=(p.length:Int) + 1:=wrap64_in (by omega) (by omega)
  have hlm:∀ w',lenB Tryd.prog w' 28 mv=.val (.int .i64 ((p.length + 1:Nat):Int)) w':=fun w'=>by have:=len28V (w':=w') hmr; rwa [hml] at this
  simp only [Int.natCast_add,Int.natCast_one] at hlm
  rw [emv] at c16 jm hlm
  simp [mc8_r2,t2,t4,t7,t11,gY,cellsOf_agg,jr,jd,jp,jl,sb,c34,gY2,c16,jw,jm,rW4,hln,hlm,wl,hia,hrd,gZ4,r39]
  exact hQ _ _ (by simp)
theorem tail8a (M:Nat) (h:Has8 ov) (p bits:List Int) (hA:actE r d b p=0) (hsp:spanI lim.1 lim.2 0 1000=true) (hS:surB b (lossL r p) lim=true) (hbl:bits.length≤2 ^ 60) (av pv bv:Value) (w:AW) (hl:w.lim≤w.next) (hLim:LimW w) (hrv:RowsV actC w rv r) (hdv:RowsV cdayC w dv d) (hav:∃ a n c,av=.slice a n c) (hpv:RowsV intC w pv p) (hbv:RowsV intC w bv bits) (X Z:Nat) (hX:X < w.next) (hZ:Z < w.next) (gX:w.heap.get X=some (.cells [rv,dv,.int .i64 b.wl,.int .i64 b.wh,.int .i64 b.sl,.int .i64 b.sh,av] 30 false)) (gZ:w.heap.get Z=some (.cells [.int .i64 lim.1,.int .i64 lim.2] 25 false)) (Q:Ex→Tm→AW→Prop) (t:Tm) (t2:tget t 2=bv) (t3:tget t 3=.pointer (some ⟨X,0,none⟩)) (t4:tget t 4=.pointer (some ⟨Z,0,none⟩)) (t7:tget t 7=pv)
  (hQ:∀ t w,tget t 6=.bool true→Q .ret t w):wp (exM Tryd.prog (run Tryd.prog ov (M + 47)) mc8_r1 t w) Q:=by
 obtain ⟨w2,hw2⟩:∃ w2:AW,w2=⟨((w.heap.put w.next (some (.cells [.slice none 0 0,.slice none 0 0,.int .i64 0,.int .i64 0,.int .i64 0,.int .i64 0,.slice none 0 0] 30 false))).put w.next (some (.cells [rv,dv,.int .i64 b.wl,.int .i64 b.wh,.int .i64 b.sl,.int .i64 b.sh,av] 30 false))).put w.next (some (.cells [rv,dv,.int .i64 b.wl,.int .i64 b.wh,.int .i64 b.sl,.int .i64 b.sh,pv] 30 false)),w.next + 1,w.lim⟩:=⟨_,rfl⟩
 have u2:Up w w2:=by rw [hw2]; exact (((Up.refl w).add _).put (Nat.le_refl _) (Nat.le_refl _)).put (Nat.le_refl _) (Nat.le_refl _)
 have n2:w2.next=w.next + 1:=by rw [hw2]
 have l2:w2.lim=w.lim:=u2.lim
 have gY2:w2.heap.get w.next=some (.cells [rv,dv,.int .i64 b.wl,.int .i64 b.wh,.int .i64 b.sl,.int .i64 b.sh,pv] 30 false):=by rw [hw2]; show (((w.heap.put _ _).put _ _).put _ _).get _=_; rw [get_put,if_pos rfl]
 obtain ⟨hR,hD,hB,st,hst⟩:=act_ofE hA
 have r29:=S29.call (P:=Tryd.prog) h.h29 (m:=M + 46) (w:=w2) ⟨rv,dv,pv,r,d,b,p,lim,rfl,hrv.up u2,hdv.up u2,hpv.up u2,hLim.up u2,by omega,rfl⟩
 have e29:reachR r d b p lim=.tuple ⟨[.bool true,.int .i64 0]⟩:=by unfold reachR; rw [if_pos hA,if_pos hsp,hS]
 rw [e29] at r29
 have r33:=S33.call (P:=Tryd.prog) h.h33 (m:=M + 46) (w:=w2) ⟨rv,dv,pv,r,d,b,p,rfl,hrv.up u2,hdv.up u2,hpv.up u2,hLim.up u2,rfl⟩
 have e33:sndB r d p=true:=by
  unfold sndB canB chkE
  rw [if_pos hR,if_pos hD,hst]; rfl
 rw [e33] at r33
 have m3:¬ X=w.next:=by omega
 have m4:¬ Z=w.next:=by omega
 have sl:∀ v,(∃ a n c,v=Value.slice a n c)→notJunk v=some v∧single v=true∧cellsOf v=[v]:=fun v hv=>by
  obtain ⟨a,n,c,rfl⟩:=hv; exact ⟨rfl,rfl,rfl⟩
 have sr:=sl rv (by obtain ⟨a,c,e⟩:=hrv.len; exact ⟨a,_,c,e⟩)
 have sd:=sl dv (by obtain ⟨a,c,e⟩:=hdv.len; exact ⟨a,_,c,e⟩)
 have sp:=sl pv (by obtain ⟨a,c,e⟩:=hpv.len; exact ⟨a,_,c,e⟩)
 have sa:=sl av hav
 rw [hw2] at r29 r33
 simp only [boxC,spC,curC] at r29 r33
 have sg1:singles [pv]=true:=by obtain ⟨a,c,e⟩:=hpv.len; rw [e]; rfl
 have sg7:singles [rv,dv,.int .i64 b.wl,.int .i64 b.wh,.int .i64 b.sl,.int .i64 b.sh,av]=true:=by
  obtain ⟨a1,c1,e1⟩:=hrv.len
  obtain ⟨a2,c2,e2⟩:=hdv.len
  obtain ⟨a3,n3,c3,e3⟩:=hav
  rw [e1,e2,e3]; rfl
 simp [mc8_r1,t2,t3,t4,t7,gX,gZ,m3,m4,hl,cellsOf_agg,sg1,sg7,sr,sd,sp,sa,r29,r33]
 rw [← hw2]
 refine tail8b M h p bits hA hS hbl pv bv w2 (by omega) (hLim.up u2) (hrv.up u2) (hdv.up u2) (hpv.up u2) (hbv.up u2) w.next Z (by omega) (by omega) gY2 ((u2.at hZ).trans gZ) _ _ ?_ ?_ ?_ ?_ hQ
 ·simp [t2]
 ·simp [t4]
 ·simp [t7]
 ·simp
end
set_option maxHeartbeats 4000000 in
theorem run8 {ov:Ov} (M:Nat) (ho:∀ args w,ov 8 args w=none) (h:Has8 ov) (r:List CAct) (d:List CDay) (b:CBox) (acts bits:List Int) (lim:Sp) (hbl:bits.length≤2 ^ 60) (rv dv av bv:Value) (w:AW) (hl:w.lim=w.next) (hLim:LimW w) (hrv:RowsV actC w rv r) (hdv:RowsV cdayC w dv d) (hav:RowsV intC w av acts) (hbv:RowsV intC w bv bits) :
  ∃ x w',(run Tryd.prog ov (M + 48)).call 8 [.agg ⟨curC rv dv b av⟩,.agg ⟨spC lim⟩,bv] w .none=.ok (.ret x) w' .none∧x=.bool true:=by
 refine call_wp text8 (by simp) (ho _ _) ?_
 obtain ⟨w1,hw1⟩:∃ w1:AW,w1=⟨(w.heap.put w.next (some (.cells [rv,dv,.int .i64 b.wl,.int .i64 b.wh,.int .i64 b.sl,.int .i64 b.sh,av] 30 false))).put (w.next + 1) (some (.cells [.int .i64 lim.1,.int .i64 lim.2] 25 false)),w.next + 1 + 1,w.lim⟩:=⟨_,rfl⟩
 have u1:Up w w1:=by rw [hw1]; exact ((Up.refl w).add _).put (Nat.le_succ _) (Nat.le_succ _)
 have n1:w1.next=w.next + 2:=by rw [hw1]
 have l1:w1.lim=w.lim:=u1.lim
 have gX1:w1.heap.get w.next=some (.cells [rv,dv,.int .i64 b.wl,.int .i64 b.wh,.int .i64 b.sl,.int .i64 b.sh,av] 30 false):=by rw [hw1]; show ((w.heap.put _ _).put _ _).get _=_; rw [get_put,if_neg (by omega),get_put,if_pos rfl]
 have gZ1:w1.heap.get (w.next + 1)=some (.cells [.int .i64 lim.1,.int .i64 lim.2] 25 false):=by rw [hw1]; show ((w.heap.put _ _).put _ _).get _=_; rw [get_put,if_pos rfl]
 obtain ⟨_,w2,c31,pv,e,rfl,u2,hj,hP⟩:=call31 (b:=b) (lim:=lim) M h.o31 h.o74 h.h73 h.h70 h.hL w1 (by omega) (hLim.up u1) (hrv.up u1) (hdv.up u1)
 have u12:=u1.trans u2
 have hn2:=u2.next
 have hm2:=u12.lim
 have gX2:w2.heap.get w.next=some (.cells [rv,dv,.int .i64 b.wl,.int .i64 b.wh,.int .i64 b.sl,.int .i64 b.sh,av] 30 false):=(u2.at (by omega)).trans gX1
 have gZ2:w2.heap.get (w.next + 1)=some (.cells [.int .i64 lim.1,.int .i64 lim.2] 25 false):=(u2.at (by omega)).trans gZ1
 have r29:=S29.call (P:=Tryd.prog) h.h29 (m:=M + 46) (w:=w2) ⟨rv,dv,av,r,d,b,acts,lim,rfl,hrv.up u12,hdv.up u12,hav.up u12,hLim.up u12,by omega,rfl⟩
 have rW:=ruleW h.hW (M + 46) (w:=w2) (hLim.up u12).1
 have hlna:=fun w'=>len28V (w':=w') hav
 have rj:notJunk rv=some rv:=by obtain ⟨x,y,rfl⟩:=hrv.len; rfl
 have dj:notJunk dv=some dv:=by obtain ⟨x,y,rfl⟩:=hdv.len; rfl
 have aj:notJunk av=some av:=by obtain ⟨x,y,rfl⟩:=hav.len; rfl
 simp only [boxC,spC] at c31 r29
 rw [hw1] at c31
 simp only [curC,spC]
 have hn:∀ w',lenB Tryd.prog w' 28 (.slice none 0 0)=.val (.int .i64 0) w':=fun w'=>len28 w' none 0 0
 rcases hP with ⟨p1,rfl,rfl⟩ | ⟨p1,p2,rfl,rfl⟩ | ⟨p1,p2,p3,rfl,rfl⟩ | ⟨p1,p2,rfl,k,p,s,A,p3,p4,p5,p6,p7,p8,rfl⟩
 ·-- the rule, the days or the box
  have hne:=act_no (acts:=acts) p1
  have hb4:bxE r d b ≠ 4:=by
   unfold bxE chkE
   by_cases q1:ruleB r=true <;> by_cases q2:daysB d=true <;> by_cases q3:boxB b=true <;> simp [q1,q2,q3]
  have e29:reachR r d b acts lim=.tuple ⟨[.bool false,.int .i64 (actE r d b acts)]⟩:=by unfold reachR; rw [if_neg hne]
  rw [e29] at r29
  simp [mc8_eq,cellsOf_agg,c31,hj,gX2,gZ2,rj,dj,aj,r29,p1,hb4,hn,hne,rW,tupV]
 ·-- the limit
  have e29:∃ f:Int,f ≠ 0∧reachR r d b acts lim=.tuple ⟨[.bool false,.int .i64 f]⟩:=by
   unfold reachR
   by_cases hA:actE r d b acts=0
   ·rw [if_pos hA,if_neg (by rw [p2]; decide)]; exact ⟨7,by decide,rfl⟩
   ·rw [if_neg hA]; exact ⟨_,hA,rfl⟩
  obtain ⟨f,hf,e29⟩:=e29
  rw [e29] at r29
  simp [mc8_eq,cellsOf_agg,c31,hj,gX2,gZ2,rj,dj,aj,r29,hn,hf,rW,tupV]
 ·-- there are none
  have e29:∃ (is:Bool) (f:Int),reachR r d b acts lim=.tuple ⟨[.bool is,.int .i64 f]⟩∧¬ (f=0∧is=true):=by
   unfold reachR
   by_cases hA:actE r d b acts=0
   ·rw [if_pos hA,if_pos p2]
    refine ⟨_,_,rfl,fun hh=>?_⟩
    obtain ⟨hR,hD,hB,t,ht⟩:=act_ofE hA
    rw [sur_at hA ht] at hh
    have hlen:=stg_len hR ht
    have hdl:=days_len hD
    have:=left_le (so:=soB b lim) (n:=d.length) ht hh.2 hlen
    omega
   ·rw [if_neg hA]; exact ⟨_,_,rfl,fun hh=>hA hh.1⟩
  obtain ⟨is,f,e29,hno⟩:=e29
  rw [e29] at r29
  by_cases hf:f=0
  ·have his:is=false:=by
    cases is with
    | false=>rfl
    | true=>exact absurd ⟨hf,rfl⟩ hno
   simp [mc8_eq,cellsOf_agg,c31,hj,gX2,gZ2,rj,dj,aj,r29,hn,hf,his,rW,tupV]
  ·simp [mc8_eq,cellsOf_agg,c31,hj,gX2,gZ2,rj,dj,aj,r29,hn,hf,rW,tupV]
 ·-- a plan
  obtain ⟨hR,hD,hB⟩:=bx_of p1
  have hst:=p5.stg
  have hA:=act_at p1 hst
  have hend:=p5.end p3 p6
  have hS:surB b (lossL r p) lim=true:=by rw [sur_at hA hst]; exact hend
  have hdl:=days_len hD
  have hkn:k≤d.length:=by have:=stg_len hR hst; omega
  have hpv:RowsV intC w2 (.slice (some ⟨A,0,none⟩) k k) p:=by
   rcases Nat.eq_zero_or_pos k with h0 | h0
   ·have:p=[]:=List.eq_nil_of_length_eq_zero (by omega)
    rw [h0,this]
    exact .inl ⟨rfl,_,_,rfl⟩
   ·exact .inr ⟨A,0,none,k,by rw [p6],⟨[],[],3,false,by simpa using p7,rfl⟩,p8⟩
  have hlnp:∀ w',lenB Tryd.prog w' 28 (.slice (some ⟨A,0,none⟩) k k)=.val (.int .i64 (k:Int)) w':=fun w'=>len28 w' _ _ _
  have e29:∃ (is:Bool) (f:Int),reachR r d b acts lim=.tuple ⟨[.bool is,.int .i64 f]⟩∧(f=0→is=true→k≤acts.length∧acts.length≤14∧(acts.length=k→lexL acts p=false)):=by
   unfold reachR
   by_cases hA:actE r d b acts=0
   ·rw [if_pos hA,if_pos p2]
    refine ⟨_,_,rfl,fun _ hh=>?_⟩
    obtain ⟨_,_,_,t,ht⟩:=act_ofE hA
    rw [sur_at hA ht] at hh
    have hlen:=stg_len hR ht
    have:=left_le (so:=soB b lim) (n:=d.length) ht hh hlen
    exact ⟨by omega,by omega,fun he=>p5.first hkn p3 p6 ht hh he⟩
   ·rw [if_neg hA]; exact ⟨_,_,rfl,fun hh=>absurd hh hA⟩
  obtain ⟨is,f,e29,hyes⟩:=e29
  rw [e29] at r29
  have fin:∀ (Q:Ex→Tm→AW→Prop) (t:Tm),tget t 2=bv→tget t 3=.pointer (some ⟨w.next,0,none⟩)→tget t 4=.pointer (some ⟨w.next + 1,0,none⟩)→tget t 7=.slice (some ⟨A,0,none⟩) k k→(∀ t w,tget t 6=.bool true→Q .ret t w)→wp (exM Tryd.prog (run Tryd.prog ov (M + 47)) mc8_r1 t w2) Q:=fun Q t t2 t3 t4 t7 hQ =>
   tail8a M h p bits hA p2 hS hbl av _ bv w2 (by omega) (hLim.up u12) (hrv.up u12) (hdv.up u12) (by obtain ⟨x,y,e⟩:=hav.len; exact ⟨x,_,y,e⟩) hpv (hbv.up u12) w.next (w.next + 1) (by omega) (by omega) gX2 gZ2 Q t t2 t3 t4 t7 hQ
  by_cases hf:f=0
  ·cases is with
   | false =>
    simp [mc8_eq,cellsOf_agg,c31,hj,gX2,gZ2,rj,dj,aj,r29,hf]
    refine fin _ _ ?_ ?_ ?_ ?_ ?_
    ·simp
    ·simp
    ·simp
    ·simp
    ·intro t w s6; simp [s6,tupV]
   | true =>
    obtain ⟨y1,y2,y3⟩:=hyes hf rfl
    have hlt:¬ (acts.length:Int) < (k:Int):=by omega
    have hlt':¬ acts.length < k:=by omega
    by_cases he:acts.length=k
    ·have he':(acts.length:Int)=(k:Int):=by omega
     have r43:=S43.call (P:=Tryd.prog) h.h43 (m:=M + 46) (w:=w2) ⟨av,.slice (some ⟨A,0,none⟩) k k,acts,p,rfl,hav.up u12,hpv,by omega,by omega,rfl⟩
     rw [y3 he] at r43
     rw [he] at hlna
     simp [mc8_eq,cellsOf_agg,c31,hj,gX2,gZ2,rj,dj,aj,r29,hf,hlna,hlnp,hlt,hlt',he,he',r43]
     refine fin _ _ ?_ ?_ ?_ ?_ ?_
     ·simp
     ·simp
     ·simp
     ·simp
     ·intro t w s6; simp [s6,tupV]
    ·have he':¬ (acts.length:Int)=(k:Int):=by omega
     simp [mc8_eq,cellsOf_agg,c31,hj,gX2,gZ2,rj,dj,aj,r29,hf,hlna,hlnp,hlt,hlt',he,he']
     refine fin _ _ ?_ ?_ ?_ ?_ ?_
     ·simp
     ·simp
     ·simp
     ·simp
     ·intro t w s6; simp [s6,tupV]
  ·simp [mc8_eq,cellsOf_agg,c31,hj,gX2,gZ2,rj,dj,aj,r29,hf]
   refine fin _ _ ?_ ?_ ?_ ?_ ?_
   ·simp
   ·simp
   ·simp
   ·simp
   ·intro t w s6; simp [s6,tupV]
set_option maxRecDepth 1000000 in
theorem works_true:resIs (.bool true) ((run Tryd.prog noOv 1000).call 19 [] (startA 1 laidL) .none)=true:=by kernel_rfl
theorem mixed:Tryd.prog.follows .mixedOrders=true:=by kernel_rfl
theorem globals1:Tryd.prog.globals.size=1:=by kernel_rfl
theorem no_count:NoCount Tryd.prog:=NoCount.of (by kernel_rfl)
noncomputable def oW:Ov:=memoOv 19 [] laidL (.bool true) noOv
theorem okW':OvOk Tryd.prog oW:=memo_ok no_count mixed ov_none works_true (by kernel_rfl) (by kernel_rfl) (by rw [globals1]; exact Nat.le_refl _) (by kernel_rfl) ov_none
theorem oW_none {f:Nat} (hf:f ≠ 19) (args:List Value) (w:AW):oW f args w=none:=by
 have:Nat.beq f 19=false:=by rw [← Bool.not_eq_true]; intro h; exact hf (Nat.eq_of_beq_eq_true h)
 simp [oW,memoOv,this,noOv]
theorem oW_has:HasW oW:=fun w hw=>by
 have:=hasAll_lim hw
 simp [oW,memoOv,this,sameL5,sameVal.sameVals]
theorem HasW.skip {f:Nat} {F:PureF} {rest:Ov} (hf:19 ≠ f) (h:HasW rest):HasW (ovP f F rest):=fun w hw=>by simp [ovP,hf,h w hw]
theorem ovP_none {f g:Nat} {F:PureF} {rest:Ov} (hne:g ≠ f) (h:∀ args w,rest g args w=none) (args:List Value) (w:AW):ovP f F rest g args w=none:=by simp [ovP,hne,h]
theorem stgR_ground (o:Option Stg):groundC 3 (stgR o)=true:=by cases o <;> rfl
theorem canR_ground (r:List CAct) (d:List CDay) (acts:List Int):groundC 3 (canR r d acts)=true:=by unfold canR; split <;> rfl
noncomputable def ovL:List (Nat × PureF)→Ov
 | []=>oW
 | x::l=>ovP x.1 x.2 (ovL l)
def keyB (g:Nat):List (Nat × PureF)→Bool
 | []=>Nat.beq g 19
 | x::l=>Nat.beq g x.1 || keyB g l
def lookF (g:Nat):List (Nat × PureF)→Option PureF
 | []=>none
 | x::l=>bif Nat.beq g x.1 then some x.2 else lookF g l
theorem beq_no {a b:Nat} (h:Nat.beq a b=false):a ≠ b:=fun e=>by rw [e,Nat.beq_refl] at h; cases h
theorem chN {g:Nat}:∀ {l:List (Nat × PureF)},keyB g l=false→∀ args w,ovL l g args w=none
 | [],h=>oW_none (beq_no h)
 | x::l,h=>by
  simp only [keyB,Bool.or_eq_false_iff] at h
  exact ovP_none (beq_no h.1) (chN h.2)
theorem chH {g:Nat} {F:PureF}:∀ {l:List (Nat × PureF)},lookF g l=some F→HasP (ovL l) g F
 | [],h=>by cases h
 | x::l,h=>by
  simp only [lookF] at h
  cases hb:Nat.beq g x.1 with
  | true =>
   rw [hb] at h
   cases h
   have e:=Nat.eq_of_beq_eq_true hb
   subst e
   exact .here
  | false =>
   rw [hb] at h
   exact HasP.skip (beq_no hb) (chH h)
def memB (g:Nat):List (Nat × PureF)→Bool
 | []=>false
 | x::l=>Nat.beq g x.1 || memB g l
theorem chW:∀ {l:List (Nat × PureF)},memB 19 l=false→HasW (ovL l)
 | [],_=>oW_has
 | x::l,h=>by
  simp only [memB,Bool.or_eq_false_iff] at h
  exact HasW.skip (beq_no h.1) (chW h.2)
theorem all_ground (n:Nat):∀ l:List Sp,groundC.allC (groundC (n + 1)) (l.flatMap spC)=true
 | []=>rfl
 | _::l=>by
  rw [List.flatMap_cons]
  exact all_ground n l
theorem rows_ground (l:List Sp):groundC 3 (.agg ⟨l.flatMap spC⟩)=true:=all_ground 1 l
theorem narR_ground (o:Option (List Sp)):groundC 3 (narR o)=true:=by
 cases o with
 | none=>rfl
 | some V =>
  show (bif groundC 2 (.agg ⟨V.flatMap spC⟩) then (bif true then true else false) else false)=true
  rw [show groundC 2 (.agg ⟨V.flatMap spC⟩)=true from all_ground 0 V]
  rfl
theorem reachR_ground (r:List CAct) (d:List CDay) (b:CBox) (acts:List Int) (lim:Sp):groundC 3 (reachR r d b acts lim)=true:=by unfold reachR; split <;> (try split) <;> rfl
noncomputable def l39:List (Nat × PureF):=(39,S39.F)::[]
noncomputable def o39:Ov:=ovL l39
theorem ok39:OvOk Tryd.prog (ovP 39 S39.F (ovL [])):=S39.ok no_count mixed okW' fun args w v hl h=>by
 obtain ⟨n,a,b,rfl,rfl⟩:=h
 obtain ⟨v',w',hc,e⟩:=run39 (ov:=(ovL [])) (chN rfl) n a b w
 exact ⟨rfl,2,v',w',_,hc,e⟩
noncomputable def l82:List (Nat × PureF):=(82,S82.F)::l39
noncomputable def o82:Ov:=ovL l82
theorem ok82:OvOk Tryd.prog (ovP 82 S82.F o39):=S82.ok no_count mixed ok39 fun args w v hl h=>by
 obtain ⟨n,a,b,rfl,rfl⟩:=h
 obtain ⟨v',w',hc,e⟩:=run82 (ov:=o39) (chN rfl) n a b w
 exact ⟨rfl,2,v',w',_,hc,e⟩
noncomputable def l92:List (Nat × PureF):=(92,S92.F)::l82
noncomputable def o92:Ov:=ovL l92
theorem ok92:OvOk Tryd.prog (ovP 92 S92.F o82):=S92.ok no_count mixed ok82 fun args w v hl h=>by
 obtain ⟨a,b,rfl,rfl⟩:=h
 obtain ⟨v',w',hc,e⟩:=run92 (ov:=o82) (chN rfl) a b w
 exact ⟨rfl,2,v',w',_,hc,e⟩
noncomputable def l93:List (Nat × PureF):=(93,S93.F)::l92
noncomputable def o93:Ov:=ovL l93
theorem ok93:OvOk Tryd.prog (ovP 93 S93.F o92):=S93.ok no_count mixed ok92 fun args w v hl h=>by
 obtain ⟨a,b,c,d,rfl,rfl⟩:=h
 obtain ⟨v',w',hc,e⟩:=run93 (ov:=o92) (chN rfl) a b c d w
 exact ⟨rfl,2,v',w',_,hc,e⟩
noncomputable def l81:List (Nat × PureF):=(81,S81.F)::l93
noncomputable def o81:Ov:=ovL l81
theorem ok81:OvOk Tryd.prog (ovP 81 S81.F o93):=S81.ok no_count mixed ok93 fun args w v hl h=>by
 obtain ⟨q,n,s,rfl,hq,hL,rfl⟩:=h
 obtain ⟨v',w',hc,e⟩:=run81 (ov:=o93) (chN rfl) (chH rfl) q n s hq w hL
 exact ⟨rfl,2,v',w',_,hc,e⟩
noncomputable def l70:List (Nat × PureF):=(70,S70.F)::l81
noncomputable def o70:Ov:=ovL l70
theorem ok70:OvOk Tryd.prog (ovP 70 S70.F o81):=S70.ok no_count mixed ok81 fun args w v hl h=>by
 obtain ⟨q,a,b,s,rfl,hq,hL,rfl⟩:=h
 obtain ⟨v',w',hc,e⟩:=run70 (ov:=o81) (chN rfl) (chH rfl) (chH rfl) q a b s hq w hl hL
 exact ⟨rfl,2,v',w',_,hc,e⟩
noncomputable def l94:List (Nat × PureF):=(94,S94.F)::l70
noncomputable def o94:Ov:=ovL l94
theorem ok94:OvOk Tryd.prog (ovP 94 S94.F o70):=S94.ok no_count mixed ok70 fun args w v hl h=>by
 obtain ⟨b,rfl,hL,rfl⟩:=h
 obtain ⟨v',w',hc,e⟩:=run94 (ov:=o70) (chN rfl) (chH rfl) b w hl hL
 exact ⟨rfl,2,v',w',_,hc,e⟩
noncomputable def l53:List (Nat × PureF):=(53,S53.F)::l94
noncomputable def o53:Ov:=ovL l53
theorem ok53:OvOk Tryd.prog (ovP 53 S53.F o94):=S53.ok no_count mixed ok94 fun args w v hl h=>by
 obtain ⟨x,r,rfl,hv,hL,rfl⟩:=h
 obtain ⟨v',w',hc,e⟩:=run53 (ov:=o94) (chN rfl) (chH rfl) (chH rfl) r x w hl hv hL
 exact ⟨rfl,2,v',w',_,hc,e⟩
noncomputable def l54:List (Nat × PureF):=(54,S54.F)::l53
noncomputable def o54:Ov:=ovL l54
theorem ok54:OvOk Tryd.prog (ovP 54 S54.F o53):=S54.ok no_count mixed ok53 fun args w v hl h=>by
 obtain ⟨x,d,rfl,hv,hL,rfl⟩:=h
 obtain ⟨v',w',hc,e⟩:=run54 (ov:=o53) (chN rfl) (chH rfl) d x w hl hv hL
 exact ⟨rfl,2,v',w',_,hc,e⟩
noncomputable def l14:List (Nat × PureF):=(14,S14.F)::l54
noncomputable def o14:Ov:=ovL l14
theorem ok14:OvOk Tryd.prog (ovP 14 S14.F o54):=S14.ok no_count mixed ok54 fun args w v hl h=>by
 obtain ⟨x,y,r,d,rfl,hv,hd,hL,rfl⟩:=h
 obtain ⟨v',w',hc,e⟩:=run14 (ov:=o54) (chN rfl) (chH rfl) (chH rfl) r d x y w hv hd hL
 exact ⟨rfl,2,v',w',_,hc,e⟩
noncomputable def l100:List (Nat × PureF):=(100,S100.F)::l14
noncomputable def o100:Ov:=ovL l100
theorem ok100:OvOk Tryd.prog (ovP 100 S100.F o14):=S100.ok no_count mixed ok14 fun args w v hl h=>by
 obtain ⟨s,a,n,rfl,hs,ha,_,rfl⟩:=h
 obtain ⟨v',w',hc,e⟩:=run100 (ov:=o14) (chN rfl) s a n hs ha w hl
 exact ⟨rfl,2,v',w',_,hc,e⟩
noncomputable def l78:List (Nat × PureF):=(78,S78.F)::l100
noncomputable def o78:Ov:=ovL l78
theorem ok78:OvOk Tryd.prog (ovP 78 S78.F o100):=S78.ok no_count mixed ok100 fun args w v hl h=>by
 obtain ⟨rfl,_,rfl⟩:=h
 obtain ⟨v',w',hc,e⟩:=run78 (ov:=o100) (chN rfl) w hl
 exact ⟨rfl,2,v',w',_,hc,e⟩
noncomputable def l107:List (Nat × PureF):=(107,S107.F)::l78
noncomputable def o107:Ov:=ovL l107
theorem ok107:OvOk Tryd.prog (ovP 107 S107.F o78):=S107.ok no_count mixed ok78 fun args w v hl h=>by
 obtain ⟨x,n,y,s,rfl,hs,rfl⟩:=h
 obtain ⟨v',w',hc,e⟩:=run107 (ov:=o78) (chN rfl) x n y s w
 exact ⟨rfl,2,v',w',_,hc,e⟩
noncomputable def l108:List (Nat × PureF):=(108,S108.F)::l107
noncomputable def o108:Ov:=ovL l108
theorem ok108:OvOk Tryd.prog (ovP 108 S108.F o107):=S108.ok no_count mixed ok107 fun args w v hl h=>by
 obtain ⟨x,n,y,s,rfl,hs,rfl⟩:=h
 obtain ⟨v',w',hc,e⟩:=run108 (ov:=o107) (chN rfl) x n y s w
 exact ⟨rfl,2,v',w',_,hc,e⟩
noncomputable def l109:List (Nat × PureF):=(109,S109.F)::l108
noncomputable def o109:Ov:=ovL l109
theorem ok109:OvOk Tryd.prog (ovP 109 S109.F o108):=S109.ok no_count mixed ok108 fun args w v hl h=>by
 obtain ⟨x,n,y,s,rfl,hs,rfl⟩:=h
 obtain ⟨v',w',hc,e⟩:=run109 (ov:=o108) (chN rfl) x n y s hs w
 exact ⟨rfl,2,v',w',_,hc,e⟩
noncomputable def l110:List (Nat × PureF):=(110,S110.F)::l109
noncomputable def o110:Ov:=ovL l110
theorem ok110:OvOk Tryd.prog (ovP 110 S110.F o109):=S110.ok no_count mixed ok109 fun args w v hl h=>by
 obtain ⟨x,n,y,s,rfl,hs,rfl⟩:=h
 obtain ⟨v',w',hc,e⟩:=run110 (ov:=o109) (chN rfl) x n y s w
 exact ⟨rfl,2,v',w',_,hc,e⟩
noncomputable def l51:List (Nat × PureF):=(51,S51.F)::l110
noncomputable def o51:Ov:=ovL l51
theorem ok51:OvOk Tryd.prog (ovP 51 S51.F o110):=S51.ok no_count mixed ok110 fun args w v hl h=>by
 obtain ⟨rv,dv,av,r,d,acts,rfl,h1,h2,h3,hR,hD,rfl⟩:=h
 obtain ⟨v',w',hc,e⟩:=run51 (ov:=o110) (chN rfl) (chN rfl) (chN rfl) (chN rfl) (chH rfl) (chH rfl) (chH rfl) (chH rfl) (chH rfl) (chH rfl) r d hR hD acts rv dv av w hl h1 h2 h3
 exact ⟨(stgR_ground _),4,v',w',_,hc,e⟩
noncomputable def l12:List (Nat × PureF):=(12,S12.F)::l51
noncomputable def o12:Ov:=ovL l12
theorem ok12:OvOk Tryd.prog (ovP 12 S12.F o51):=S12.ok no_count mixed ok51 fun args w v hl h=>by
 obtain ⟨rv,dv,av,r,d,acts,rfl,h1,h2,h3,hL,rfl⟩:=h
 obtain ⟨v',w',hc,e⟩:=run12 (ov:=o51) (chN rfl) (chH rfl) (chH rfl) r d acts rv dv av w hl h1 h2 h3 hL
 exact ⟨(canR_ground _ _ _),2,v',w',_,hc,e⟩
noncomputable def l73:List (Nat × PureF):=(73,S73.F)::l12
noncomputable def o73:Ov:=ovL l73
theorem ok73:OvOk Tryd.prog (ovP 73 S73.F o12):=S73.ok no_count mixed ok12 fun args w v hl h=>by
 obtain ⟨rv,dv,r,d,b,rfl,h1,h2,hL,rfl⟩:=h
 obtain ⟨v',w',hc,e⟩:=run73 (ov:=o12) (chN rfl) (chH rfl) (chH rfl) r d b rv dv w h1 h2 hL
 exact ⟨rfl,2,v',w',_,hc,e⟩
noncomputable def l56:List (Nat × PureF):=(56,S56.F)::l73
noncomputable def o56:Ov:=ovL l56
theorem ok56:OvOk Tryd.prog (ovP 56 S56.F o73):=S56.ok no_count mixed ok73 fun args w v hl h=>by
 obtain ⟨rv,dv,av,r,d,b,acts,rfl,h1,h2,h3,hL,_,rfl⟩:=h
 obtain ⟨v',w',hc,e⟩:=run56 (ov:=o73) (chN rfl) (chH rfl) (chH rfl) r d b acts rv dv av w hl h1 h2 h3 hL
 exact ⟨rfl,2,v',w',_,hc,e⟩
noncomputable def l84:List (Nat × PureF):=(84,S84.F)::l56
noncomputable def o84:Ov:=ovL l84
theorem ok84:OvOk Tryd.prog (ovP 84 S84.F o56):=S84.ok no_count mixed ok56 fun args w v hl h=>by
 obtain ⟨x,s,rfl,h,rfl⟩:=h
 obtain ⟨v',w',hc,e⟩:=run84 (ov:=o56) (chN rfl) x s h w
 exact ⟨rfl,2,v',w',_,hc,e⟩
noncomputable def l58:List (Nat × PureF):=(58,S58.F)::l84
noncomputable def o58:Ov:=ovL l58
theorem ok58:OvOk Tryd.prog (ovP 58 S58.F o84):=S58.ok no_count mixed ok84 fun args w v hl h=>by
 obtain ⟨pv,lv,b,L,ws,s,ls,rfl,h1,h2,hT,_,rfl⟩:=h
 obtain ⟨v',w',hc,e⟩:=run58 (ov:=o84) (chN rfl) (chN rfl) (chH rfl) b L ws s ls hT pv lv w hl h1 h2
 exact ⟨rfl,3,v',w',_,hc,e⟩
noncomputable def l129:List (Nat × PureF):=(129,S129.F)::l58
noncomputable def o129:Ov:=ovL l129
theorem ok129:OvOk Tryd.prog (ovP 129 S129.F o58):=S129.ok no_count mixed ok58 fun args w v hl h=>by
 obtain ⟨p,rfl,h1,_,rfl⟩:=h
 obtain ⟨v',w',hc,e⟩:=run129 (ov:=o58) (chN rfl) p h1 w hl
 exact ⟨rfl,2,v',w',_,hc,e⟩
noncomputable def l130:List (Nat × PureF):=(130,S130.F)::l129
noncomputable def o130:Ov:=ovL l130
theorem ok130:OvOk Tryd.prog (ovP 130 S130.F o129):=S130.ok no_count mixed ok129 fun args w v hl h=>by
 obtain ⟨p,rfl,h1,h2,_,rfl⟩:=h
 obtain ⟨v',w',hc,e⟩:=run130 (ov:=o129) (chN rfl) p h1 h2 w hl
 exact ⟨rfl,2,v',w',_,hc,e⟩
noncomputable def l131:List (Nat × PureF):=(131,S131.F)::l130
noncomputable def o131:Ov:=ovL l131
theorem ok131:OvOk Tryd.prog (ovP 131 S131.F o130):=S131.ok no_count mixed ok130 fun args w v hl h=>by
 obtain ⟨p,rfl,h1,h2,_,rfl⟩:=h
 obtain ⟨v',w',hc,e⟩:=run131 (ov:=o130) (chN rfl) p h1 h2 w hl
 exact ⟨rfl,2,v',w',_,hc,e⟩
noncomputable def l111:List (Nat × PureF):=(111,S111.F)::l131
noncomputable def o111:Ov:=ovL l111
theorem ok111:OvOk Tryd.prog (ovP 111 S111.F o131):=S111.ok no_count mixed ok131 fun args w v hl h=>by
 obtain ⟨s,p,lv,rfl,hv,h1,h2,_,rfl⟩:=h
 obtain ⟨v',w',hc,e⟩:=run111 (ov:=o131) (chN rfl) (chH rfl) s p lv h1 h2 w hl hv
 exact ⟨rfl,2,v',w',_,hc,e⟩
noncomputable def l112:List (Nat × PureF):=(112,S112.F)::l111
noncomputable def o112:Ov:=ovL l112
theorem ok112:OvOk Tryd.prog (ovP 112 S112.F o111):=S112.ok no_count mixed ok111 fun args w v hl h=>by
 obtain ⟨s,p,lv,rfl,hv,h1,h2,_,rfl⟩:=h
 obtain ⟨v',w',hc,e⟩:=run112 (ov:=o111) (chN rfl) (chH rfl) s p lv h1 h2 w hl hv
 exact ⟨rfl,2,v',w',_,hc,e⟩
noncomputable def l102:List (Nat × PureF):=(102,S102.F)::l112
noncomputable def o102:Ov:=ovL l102
theorem ok102:OvOk Tryd.prog (ovP 102 S102.F o112):=S102.ok no_count mixed ok112 fun args w v hl h=>by
 obtain ⟨s,l,lv,rfl,hv,h1,h2,_,rfl⟩:=h
 obtain ⟨v',w',hc,e⟩:=run102 (ov:=o112) (chN rfl) (chH rfl) s l lv h1 h2 w hl hv
 exact ⟨rfl,2,v',w',_,hc,e⟩
noncomputable def l104:List (Nat × PureF):=(104,S104.F)::l102
noncomputable def o104:Ov:=ovL l104
theorem ok104:OvOk Tryd.prog (ovP 104 S104.F o102):=S104.ok no_count mixed ok102 fun args w v hl h=>by
 obtain ⟨b,pv,L,W,rfl,hv,h1,hL,h2,h3,_,rfl⟩:=h
 obtain ⟨v',w',hc,e⟩:=run104 (ov:=o102) (chN rfl) (chN rfl) (chH rfl) (chH rfl) (chH rfl) b pv L W h1 hL h2 h3 w hl hv
 exact ⟨(narR_ground _),3,v',w',_,hc,e⟩
noncomputable def l64:List (Nat × PureF):=(64,S64.F)::l104
noncomputable def o64:Ov:=ovL l64
theorem ok64:OvOk Tryd.prog (ovP 64 S64.F o104):=S64.ok no_count mixed ok104 fun args w v hl h=>by
 obtain ⟨b,p,n,c,rfl,hn,rfl⟩:=h
 obtain ⟨v',w',hc,e⟩:=run64 (ov:=o104) (chN rfl) b p n c hn w
 exact ⟨rfl,2,v',w',_,hc,e⟩
noncomputable def l86:List (Nat × PureF):=(86,S86.F)::l64
noncomputable def o86:Ov:=ovL l86
theorem ok86:OvOk Tryd.prog (ovP 86 S86.F o64):=S86.ok no_count mixed ok64 fun args w v hl h=>by
 obtain ⟨b,pv,lv,L,l,rfl,hpv,hlen,hL,hb,hlv,h10,hR,hLim,_,rfl⟩:=h
 obtain ⟨v',w',hc,e⟩:=run86 (ov:=o64) (chN rfl) (chN rfl) (chH rfl) (chH rfl) (chH rfl) b hb L hlen hL l h10 hR pv lv w hl hLim hpv hlv
 exact ⟨(narR_ground _),3,v',w',_,hc,e⟩
noncomputable def l88:List (Nat × PureF):=(88,S88.F)::l86
noncomputable def o88:Ov:=ovL l88
theorem ok88:OvOk Tryd.prog (ovP 88 S88.F o86):=S88.ok no_count mixed ok86 fun args w v hl h=>by
 obtain ⟨b,pv,L,V,D,rfl,hpv,hlen,hL,hV,hVb,hD,_,rfl⟩:=h
 obtain ⟨v',w',hc,e⟩:=run88 (ov:=o86) (chN rfl) (chH rfl) (chH rfl) b pv L V D hlen hL hV hVb hD w hl hpv
 exact ⟨(rows_ground _),2,v',w',_,hc,e⟩
noncomputable def l71:List (Nat × PureF):=(71,S71.F)::l88
noncomputable def o71:Ov:=ovL l71
theorem ok71:OvOk Tryd.prog (ovP 71 S71.F o88):=S71.ok no_count mixed ok88 fun args w v hl h=>by
 obtain ⟨b,pv,L,lim,rfl,hpv,hlen,hL,hb,hLim,_,rfl⟩:=h
 obtain ⟨v',w',hc,e⟩:=run71 (ov:=o88) (chN rfl) (chN rfl) (chH rfl) (chH rfl) (chH rfl) (chH rfl) (chH rfl) b hb pv L lim hlen hL w hl hLim hpv
 exact ⟨rfl,4,v',w',_,hc,e⟩
noncomputable def l29:List (Nat × PureF):=(29,S29.F)::l71
noncomputable def o29:Ov:=ovL l29
theorem ok29:OvOk Tryd.prog (ovP 29 S29.F o71):=S29.ok no_count mixed ok71 fun args w v hl h=>by
 obtain ⟨rv,dv,av,r,d,b,acts,lim,rfl,h1,h2,h3,hL,_,rfl⟩:=h
 obtain ⟨v',w',hc,e⟩:=run29 (ov:=o71) (chN rfl) (chN rfl) (chH rfl) (chH rfl) (chH rfl) r d b acts lim rv dv av w hl hL h1 h2 h3
 exact ⟨(reachR_ground _ _ _ _ _),3,v',w',_,hc,e⟩
noncomputable def l36:List (Nat × PureF):=(36,S36g.F)::l29
noncomputable def o36:Ov:=ovL l36
theorem ok36:OvOk Tryd.prog (ovP 36 S36g.F o29):=S36g.ok no_count mixed ok29 fun args w v hl h=>by
 obtain ⟨n,s,rfl,rfl⟩:=h
 obtain ⟨v',w',hc,e⟩:=run36g (ov:=o29) (chN rfl) n s w
 exact ⟨rfl,2,v',w',_,hc,e⟩
noncomputable def l37:List (Nat × PureF):=(37,S37.F)::l36
noncomputable def o37:Ov:=ovL l37
theorem ok37:OvOk Tryd.prog (ovP 37 S37.F o36):=S37.ok no_count mixed ok36 fun args w v hl h=>by
 obtain ⟨lv,L,i,rfl,hv,hs,rfl⟩:=h
 obtain ⟨v',w',hc,e⟩:=run37g (ov:=o36) (chN rfl) (chH rfl) lv L i w hv hs
 exact ⟨rfl,2,v',w',_,hc,e⟩
noncomputable def l48:List (Nat × PureF):=(48,S48g.F)::l37
noncomputable def o48:Ov:=ovL l48
theorem ok48:OvOk Tryd.prog (ovP 48 S48g.F o37):=S48g.ok no_count mixed ok37 fun args w v hl h=>by
 obtain ⟨lo,hi,n,rfl,rfl⟩:=h
 obtain ⟨v',w',hc,e⟩:=run48g (ov:=o37) (chN rfl) (chH rfl) lo hi n w
 exact ⟨rfl,2,v',w',_,hc,e⟩
noncomputable def l33:List (Nat × PureF):=(33,S33.F)::l48
noncomputable def o33:Ov:=ovL l33
theorem ok33:OvOk Tryd.prog (ovP 33 S33.F o48):=S33.ok no_count mixed ok48 fun args w v hl h=>by
 obtain ⟨rv,dv,av,r,d,b,acts,rfl,h1,h2,h3,hL,rfl⟩:=h
 obtain ⟨v',w',hc,e⟩:=run33 (ov:=o48) (chN rfl) (chH rfl) (chH rfl) r d b acts rv dv av w hL h1 h2 h3
 exact ⟨rfl,2,v',w',_,hc,e⟩
noncomputable def l43:List (Nat × PureF):=(43,S43.F)::l33
noncomputable def o43:Ov:=ovL l43
theorem ok43:OvOk Tryd.prog (ovP 43 S43.F o33):=S43.ok no_count mixed ok33 fun args w v hl h=>by
 obtain ⟨av,bv,a,b,rfl,h1,h2,h3,h4,rfl⟩:=h
 obtain ⟨v',w',hc,e⟩:=run43 (ov:=o33) (chN rfl) av bv a b w h1 h2 h3 h4
 exact ⟨rfl,2,v',w',_,hc,e⟩
theorem top8:Has8 o43:=⟨⟨chN rfl,chN rfl,chN rfl,chN rfl,chN rfl,chH rfl,chH rfl,chH rfl,chH rfl,chH rfl,chH rfl,chH rfl⟩,chN rfl,chN rfl,chN rfl,chN rfl,chN rfl,chN rfl,chN rfl,chH rfl,chH rfl,chH rfl,chH rfl,chH rfl,chH rfl,chH rfl,chH rfl,chH rfl,chH rfl,chH rfl,chW rfl⟩
theorem top_true (r:List CAct) (d:List CDay) (b:CBox) (acts:List Int) (lim:Sp) (bits:List Int) (hbl:bits.length≤2 ^ 60) (rv dv av bv:Value) (w:AW) (hl:w.lim=w.next) (hL:LimW w) (hrv:RowsV actC w rv r) (hdv:RowsV cdayC w dv d) (hav:RowsV intC w av acts) (hbv:RowsV intC w bv bits):∃ w' x',(run Tryd.prog o43 48).call 8 [.agg ⟨curC rv dv b av⟩,.agg ⟨spC lim⟩,bv] w .none=.ok (.ret (.bool true)) w' x':=by
 obtain ⟨_,w',h1,rfl⟩:=run8 (ov:=o43) 0  (chN rfl) top8 r d b acts bits lim hbl rv dv av bv w hl hL hrv hdv hav hbv
 exact ⟨w',_,h1⟩
open Go Go.Sh Go.ChangeShapes Go.WideShapes Go.ChangeAt Go.RowKit
theorem u3:Tryd.prog.underlying 3=some (.int .i64):=by kernel_rfl
theorem u4:Tryd.prog.underlying 4=some .bool:=by kernel_rfl
theorem u22:Tryd.prog.underlying 22=some (.slice 78):=by kernel_rfl
theorem u23:Tryd.prog.underlying 23=some (.slice 83):=by kernel_rfl
theorem u28:Tryd.prog.underlying 28=some (.slice 3):=by kernel_rfl
theorem u25:Tryd.prog.underlying 25=some (.struct (fieldsOf Tryd.prog 25)):=by kernel_rfl
theorem u27:Tryd.prog.underlying 27=some (.struct (fieldsOf Tryd.prog 27)):=by kernel_rfl
theorem u30:Tryd.prog.underlying 30=some (.struct (fieldsOf Tryd.prog 30)):=by kernel_rfl
theorem u32:Tryd.prog.underlying 32=some (.struct (fieldsOf Tryd.prog 32)):=by kernel_rfl
theorem u78:Tryd.prog.underlying 78=some (.struct (fieldsOf Tryd.prog 78)):=by kernel_rfl
theorem u83:Tryd.prog.underlying 83=some (.struct (fieldsOf Tryd.prog 83)):=by kernel_rfl
theorem f25:(fieldsOf Tryd.prog 25).toList.map (fun f=>(f.type,f.offset))=[(3,0),(3,1)]:=by kernel_rfl
theorem f27:(fieldsOf Tryd.prog 27).toList.map (fun f=>(f.type,f.offset))=[(25,0),(25,2)]:=by kernel_rfl
theorem f30:(fieldsOf Tryd.prog 30).toList.map (fun f=>(f.type,f.offset))=[(22,0),(23,1),(27,2),(28,6)]:=by kernel_rfl
theorem f78:(fieldsOf Tryd.prog 78).toList.map (fun f=>(f.type,f.offset))=[(3,0),(3,1),(4,2),(4,3),(3,4),(25,5)]:=by kernel_rfl
theorem f83:(fieldsOf Tryd.prog 83).toList.map (fun f=>(f.type,f.offset))=[(25,0),(4,2)]:=by kernel_rfl
theorem c3:Tryd.prog.cellsOf 3=1:=by kernel_rfl
theorem c4:Tryd.prog.cellsOf 4=1:=by kernel_rfl
theorem c22:Tryd.prog.cellsOf 22=1:=by kernel_rfl
theorem c23:Tryd.prog.cellsOf 23=1:=by kernel_rfl
theorem c28:Tryd.prog.cellsOf 28=1:=by kernel_rfl
theorem c25:Tryd.prog.cellsOf 25=2:=by kernel_rfl
theorem c27:Tryd.prog.cellsOf 27=4:=by kernel_rfl
theorem c30:Tryd.prog.cellsOf 30=7:=by kernel_rfl
theorem c78:Tryd.prog.cellsOf 78=7:=by kernel_rfl
theorem c83:Tryd.prog.cellsOf 83=3:=by kernel_rfl
theorem toBoolW {H:T AObj} {n:Nat} {cs:List Value} (h:WT Tryd.prog H n 4 cs):∃ b,cs=[.bool b]:=by
 cases h with
 | bool hu=>exact ⟨_,rfl⟩
 | int hu _=>rw [u4] at hu; cases hu
 | string hu _=>rw [u4] at hu; cases hu
 | slNil hu=>rw [u4] at hu; cases hu
 | sl0 hu=>rw [u4] at hu; cases hu
 | sl hu _ _ _ _ _ _=>rw [u4] at hu; cases hu
 | struct hu _ _=>rw [u4] at hu; cases hu
 | array hu _ _=>rw [u4] at hu; cases hu
theorem span_of {H:T AObj} {n:Nat} {cs:List Value} (h:WT Tryd.prog H n 25 cs):∃ a b,cs=[.int .i64 a,.int .i64 b]:=by
 obtain ⟨hl,hf⟩:=h.toStruct u25
 rw [f25] at hf
 rw [c25] at hl
 obtain ⟨a,ha,_⟩:=(hf (3,0) (by simp)).toInt u3
 obtain ⟨b,hb,_⟩:=(hf (3,1) (by simp)).toInt u3
 rw [c3] at ha hb
 match cs,hl with
 | [x,y],_ =>
  simp at ha hb
  exact ⟨a,b,by rw [ha,hb]⟩
theorem act_ofW {H:T AObj} {n:Nat} {cs:List Value} (h:WT Tryd.prog H n 78 cs):∃ a,cs=actC a:=by
 obtain ⟨hl,hf⟩:=h.toStruct u78
 rw [f78] at hf
 rw [c78] at hl
 obtain ⟨a,ha,_⟩:=(hf (3,0) (by simp)).toInt u3
 obtain ⟨b,hb,_⟩:=(hf (3,1) (by simp)).toInt u3
 obtain ⟨c,hc⟩:=toBoolW (hf (4,2) (by simp))
 obtain ⟨d,hd⟩:=toBoolW (hf (4,3) (by simp))
 obtain ⟨e,he,_⟩:=(hf (3,4) (by simp)).toInt u3
 obtain ⟨p,q,hp⟩:=span_of (hf (25,5) (by simp))
 rw [c3] at ha hb he
 rw [c4] at hc hd
 rw [c25] at hp
 match cs,hl with
 | [x0,x1,x2,x3,x4,x5,x6],_ =>
  simp at ha hb hc hd he hp
  exact ⟨⟨a,b,c,d,e,p,q⟩,by rw [ha,hb,hc,hd,he,hp.1,hp.2]; rfl⟩
theorem day_ofW {H:T AObj} {n:Nat} {cs:List Value} (h:WT Tryd.prog H n 83 cs):∃ a,cs=cdayC a:=by
 obtain ⟨hl,hf⟩:=h.toStruct u83
 rw [f83] at hf
 rw [c83] at hl
 obtain ⟨p,q,hp⟩:=span_of (hf (25,0) (by simp))
 obtain ⟨c,hc⟩:=toBoolW (hf (4,2) (by simp))
 rw [c4] at hc
 rw [c25] at hp
 match cs,hl with
 | [x0,x1,x2],_ =>
  simp at hc hp
  exact ⟨⟨p,q,c⟩,by rw [hc,hp.1,hp.2]; rfl⟩
theorem box_ofW {H:T AObj} {n:Nat} {cs:List Value} (h:WT Tryd.prog H n 27 cs):∃ b,cs=boxC b:=by
 obtain ⟨hl,hf⟩:=h.toStruct u27
 rw [f27] at hf
 rw [c27] at hl
 obtain ⟨a,b,ha⟩:=span_of (hf (25,0) (by simp))
 obtain ⟨c,d,hc⟩:=span_of (hf (25,2) (by simp))
 rw [c25] at ha hc
 match cs,hl with
 | [x0,x1,x2,x3],_ =>
  simp at ha hc
  exact ⟨⟨a,b,c,d⟩,by rw [ha.1,ha.2,hc.1,hc.2]; rfl⟩
theorem rows_ofW {α:Type} {f:α→List Value} {m:Nat} {H:T AObj} {n lim:Nat} {t e:TypeId} {cs:List Value} (hu:Tryd.prog.underlying t=some (.slice e)) (hc:Tryd.prog.cellsOf e=m) (hf:∀ a,(f a).length=m) (hone:∀ cs,WT Tryd.prog H n e cs→∃ a,cs=f a) (h:WT Tryd.prog H n t cs) :
  ∃ v l,cs=[v]∧RowsV f ⟨H,n,lim⟩ v l∧CapV v:=by
 obtain ⟨v,l,hv,hr⟩:=rows_of_WT (lim:=lim) hu hc hf hone h
 refine ⟨v,l,hv,hr,?_⟩
 rcases WT.toSlice hu h with ⟨a,ha⟩ | ⟨b,k,c,ty,ro,ha,_⟩
 ·rw [hv] at ha; cases ha; exact ⟨a,0,0,rfl,Nat.le_refl _⟩
 ·rw [hv] at ha; cases ha; exact ⟨_,k,k,rfl,Nat.le_refl _⟩
theorem ints_of {H:T AObj} {n lim:Nat} {cs:List Value} (h:WT Tryd.prog H n 28 cs):∃ v l,cs=[v]∧RowsV intC ⟨H,n,lim⟩ v l∧CapV v :=
 rows_ofW u28 c3 intC_length (fun cs h=>by
  obtain ⟨z,hz,_⟩:=h.toInt u3
  exact ⟨z,hz⟩) h
theorem cured_arg {A:AW} {m:Value} (h:ArgT Tryd.prog A.heap A.next 30 m):∃ rv dv b av r d acts,m=.agg ⟨curC rv dv b av⟩∧RowsV actC A rv r∧RowsV cdayC A dv d∧RowsV intC A av acts∧CapV av:=by
 unfold ArgT at h
 rw [u30] at h
 obtain ⟨c,rfl,h⟩:=h
 obtain ⟨hl,hf⟩:=h.toStruct u30
 rw [f30] at hf
 rw [c30] at hl
 obtain ⟨rv,r,hr,hR,_⟩:=rows_ofW (lim:=A.lim) u22 c78 actC_length (fun cs h=>act_ofW h) (hf (22,0) (by simp))
 obtain ⟨dv,d,hd,hD,_⟩:=rows_ofW (lim:=A.lim) u23 c83 cdayC_length (fun cs h=>day_ofW h) (hf (23,1) (by simp))
 obtain ⟨b,hb⟩:=box_ofW (hf (27,2) (by simp))
 obtain ⟨av,acts,ha,hA,hC⟩:=ints_of (lim:=A.lim) (hf (28,6) (by simp))
 rw [c22] at hr
 rw [c23] at hd
 rw [c27] at hb
 rw [c28] at ha
 match c,hl with
 | [x0,x1,x2,x3,x4,x5,x6],_ =>
  simp [boxC] at hr hd hb ha
  exact ⟨rv,dv,b,av,r,d,acts,by rw [hr,hd,hb.1,hb.2.1,hb.2.2.1,hb.2.2.2,ha]; rfl,hR,hD,hA,hC⟩
theorem span_arg {A:AW} {m:Value} (h:ArgT Tryd.prog A.heap A.next 25 m):∃ a b,m=.agg ⟨spC (a,b)⟩:=by
 unfold ArgT at h
 rw [u25] at h
 obtain ⟨c,rfl,h⟩:=h
 obtain ⟨a,b,rfl⟩:=span_of h
 exact ⟨a,b,rfl⟩
theorem ints_arg {A:AW} {m:Value} (h:ArgT Tryd.prog A.heap A.next 28 m):∃ l,RowsV intC A m l:=by
 unfold ArgT at h
 rw [u28] at h
 obtain ⟨v,l,hv,hr,_⟩:=ints_of (lim:=A.lim) h
 cases hv
 exact ⟨l,hr⟩
theorem b3:Tryd.prog.bytesOf 3=8:=by kernel_rfl
theorem short_of {A:AW} {m:Value} {L:List Int} (h:RowsV intC A m L) (k:∀ (a:Option Addr) (n c:Nat),m=.slice a n c→n * Tryd.prog.bytesOf 3≤reachBytes):L.length≤2 ^ 60:=by
 obtain ⟨a,c,e⟩:=h.len
 have:=k a _ c e
 rw [b3] at this
 unfold reachBytes at this
 omega
theorem lim_start:(startH laidL).get 0=some (.cells limC 141 true):=by
 show ((startH []).put 0 (some (.cells limC 141 true))).get 0=_
 rw [get_put,if_pos rfl]
theorem lim_atA {A:AW} (hG:Tryd.prog.globals.size≤A.next) (hs:∀ b,b < Tryd.prog.globals.size→A.heap.get b=(startH laidL).get b):LimW A:=by
 rw [globals1] at hG hs
 exact ⟨⟨true,by rw [hs 0 (by decide),lim_start]⟩,hG⟩
theorem ty30:tyOk Tryd.prog 6 30=true:=by kernel_rfl
theorem ty25:tyOk Tryd.prog 6 25=true:=by kernel_rfl
theorem ty28:tyOk Tryd.prog 6 28=true:=by kernel_rfl
theorem start_true (A:AW) (ms:List Value) (hl:A.lim=A.next) (hG:Tryd.prog.globals.size≤A.next) (hs:∀ b,b < Tryd.prog.globals.size→A.heap.get b=(startH laidL).get b) (hms:ArgsT Tryd.prog A.heap A.next [30,25,28] ms) (hz:∀ (j:Nat) t e a k c,[30,25,28][j]?=some t→Tryd.prog.underlying t=some (.slice e)→ms[j]?=some (.slice a k c)→k * Tryd.prog.bytesOf e≤reachBytes) :
  ∃ A' x',(run Tryd.prog o43 48).call 8 ms A .none=.ok (.ret (.bool true)) A' x':=by
 have hL:=lim_atA hG hs
 match ms,hms,hz with
 | [m1,m2,m3],hm,hz =>
  obtain ⟨rv,dv,b,av,r,d,acts,rfl,h1,h2,h3,_⟩:=cured_arg hm.1
  obtain ⟨p,q,rfl⟩:=span_arg hm.2.1
  obtain ⟨bits,h4⟩:=ints_arg hm.2.2.1
  exact top_true r d b acts (p,q) bits (short_of h4 fun a n c e=>hz 2 28 3 a n c rfl u28 (by rw [e]; rfl)) rv dv av m3 A hl hL h1 h2 h3 h4
open Go.ChangeShapes Go.WideShapes Go.ChangeAt Go.RowKit Go.Sh
theorem own:ownKnob Tryd.prog.godebug=none:=by kernel_rfl
theorem row0:RowOf Tryd.prog 0 14 141:=.of (by kernel_rfl)
theorem g0:Tryd.prog.globalNamed "rostellum/cure.limits"=some 0:=by kernel_rfl
theorem t0:(Tryd.prog.globals[0]?).map (·.type)=some 141:=by kernel_rfl
theorem lim_dat:datC Tryd.prog 5 141 Rows.laid_rostellum_cure_limits=some limC:=by kernel_rfl
def laidRow:List (String × DataW Unit):=[("rostellum/cure.limits",Rows.laid_rostellum_cure_limits)]
theorem laid_ok {W:World} (hs:W.ShapedOpen Tryd.prog) (hL:laidMet Tryd.prog laidRow W):LaidOk Tryd.prog W laidL:=by
 intro x hx
 unfold laidL at hx
 rcases List.mem_cons.1 hx with rfl | hx
 ·exact laid_plain hs hL (.head _) g0 (by rw [globals1]; decide) t0 lim_dat (by kernel_rfl) row0
 ·cases hx
theorem kids:Kids Tryd.prog (· < Tryd.prog.types.size):=kids_rows (by kernel_rfl) (by kernel_rfl)
theorem wide:slicesWide Tryd.prog=true:=by kernel_rfl
noncomputable def laidWorld (os:Os):World :=
 let w0:=World.holding Tryd.prog os ⟨#[],#[],[]⟩
 { w0 with heap:=w0.heap.modify 0 fun
  | .cells _ t frozen=>.cells limC.toArray t frozen
  | o=>o }
theorem laid_met (os:Os) (args:Array Value):laidMet Tryd.prog laidRow ((laidWorld os).forCall (fun _ _=>0) ⟨#[],args,[]⟩).memory :=
 laidMet_of_run' 8 (by kernel_rfl) (by kernel_rfl)
theorem reads (os:Os) {H:Type} (enc:TypeId × Value→H):∃ places,DataW.whole enc Tryd.prog ((laidWorld os).forCall (fun _ _=>0) ⟨#[],#[.agg ⟨[.slice none 0 0,.slice none 0 0,.int .i64 0,.int .i64 0,.int .i64 0,.int .i64 0,.slice none 0 0]⟩,.agg ⟨[.int .i64 0,.int .i64 0]⟩,.slice none 0 0],[]⟩).memory Tryd.f8.params.toList Rows.cureLimitSpec.vars false (#[Value.agg ⟨[.slice none 0 0,.slice none 0 0,.int .i64 0,.int .i64 0,.int .i64 0,.int .i64 0,.slice none 0 0]⟩,.agg ⟨[.int .i64 0,.int .i64 0]⟩,.slice none 0 0]:Array Value).toList 8=some ([.agg [.nil,.nil,.agg [.agg [.lit (.int .i64 0),.lit (.int .i64 0)],.agg [.lit (.int .i64 0),.lit (.int .i64 0)]],.nil],.agg [.lit (.int .i64 0),.lit (.int .i64 0)],.nil],[],places) :=
 ⟨[],by kernel_rfl⟩
theorem mem_all {t a b c:Nat} (h:t ∈ [a,b,c]):t=a∨t=b∨t=c:=by simpa using h
theorem params8:Tryd.f8.params.toList=[30,25,28]:=by kernel_rfl
set_option maxRecDepth 100000 in
theorem contract (H:Type) (enc:TypeId × Value→H) (W:World) (base:Nat) (args:Array Value) (ds gs:List (DataW H)) (before:List MemPlace)
  (hval:∀ (j:Nat) t v,Tryd.f8.params[j]?=some t→args[j]?=some v→Value.okWide Tryd.prog W .any base t v)
  (hW:DataW.Whole enc Tryd.prog Tryd.f8.params.toList Rows.cureLimitSpec.vars false W args.toList ds gs before) {tw:List TypeId} (hz:(DataW.weightsEach Tryd.prog (Tryd.f8.params.toList++tw) (ds++gs)).all (·≤reachBytes)=true) (hL:laidMet Tryd.prog laidRow W) (hs:W.ShapedOpen Tryd.prog) :
  Calls Tryd.prog 8 args W fun e W'=>∃ v,e=.returned v∧Rows.cureLimitSpec.post enc Tryd.prog Tryd.f8 false true false false W args v W':=by
 have hW':=hW
 obtain ⟨vs⟩:=args
 obtain ⟨p,q,hA,hV,rfl,hfz,hnd⟩:=hW
 obtain ⟨rfl,rfl⟩:=trodVars_none hV
 have hA':=hA
 rw [params8] at hA'
 rw [params8] at hz
 obtain ⟨_,hlen⟩:=trodAll_length _ _ _ _ hA'
 have key:=input_sized no_count mixed ok43 (laid_ok hs hL) (d:=6) (ts:=[30,25,28]) (f:=8) (m:=48) (fun t ht=>by rcases mem_all ht with rfl | rfl | rfl; exact ty30; exact ty25; exact ty28) (fun j t v h1 h2=>hval j t v (by rw [← Array.getElem?_toList,params8]; exact h1) (by simpa using h2)) hA' hlen hz start_true
 match ds,hlen with
 | [d1,d2,d3],_ =>
  refine key.mono fun e W' ⟨he,hk⟩=>?_
  subst he
  exact ⟨_,rfl,post_stays (pa:=p) (pv:=[]) hW' (fun _ _ _=>trodAll_cons_mk (shut_bool Tryd.underlying4 _) trodAll_mk0)
   (fun sp hsp=>by
    show DataW.TrodAll enc Tryd.prog W' 0 sp true Tryd.f8.params.toList vs [d1,d2,d3] p
    rw [params8]
    exact args_again kids wide hk [30,25,28] vs [d1,d2,d3] p (fun t ht=>by rcases mem_all ht with rfl | rfl | rfl <;> decide +kernel) hA' (fun x hx=>hW'.lt x (by simpa using hx)) (fun x hx=>hsp x (by simpa using hx)))
   (fun _ _=>rfl) rfl hk (ok_one (by kernel_rfl) rfl (okWide_bool_mk Tryd.underlying4 _))⟩
set_option maxRecDepth 100000 in
theorem lifted (os:Os) (started:os.Started) (H:Type) (enc:TypeId × Value→H) (F:Stop.Interp) :
  ReturnsInHanded {} Tryd.checked os 8 .any ((OpenSpec.ofChange Rows.cureLimitSpec).preRow enc Tryd.prog Tryd.f8 Rows.cureLimitRow.domain false Rows.cureLimitRow.laid) (((OpenSpec.ofChange Rows.cureLimitSpec).at F).post enc Tryd.prog Tryd.f8 false true false false):=by
 obtain ⟨places,hx⟩:=reads os enc
 refine returnsInHanded_of_row (C:=Tryd.checked) (s:=OpenSpec.ofChange Rows.cureLimitSpec) own started (by kernel_rfl) Tryd.func8
  (witness_row_atRef (enc:=enc) (C:=Tryd.checked) false (laidWorld os) #[.agg ⟨[.slice none 0 0,.slice none 0 0,.int .i64 0,.int .i64 0,.int .i64 0,.int .i64 0,.slice none 0 0]⟩,.agg ⟨[.int .i64 0,.int .i64 0]⟩,.slice none 0 0] rfl (by kernel_rfl) (by kernel_rfl) (by kernel_rfl)
   (OpenSpec.preRow_of_cond 8 hx (by kernel_rfl) (fun k hk=>by cases hk) (by kernel_rfl) (laid_met os _))) ?_
 intro W base args ds gs before hval hW _ _ hz hL hs _
 exact contract H enc W base args ds gs before hval hW hz hL hs
theorem said:Rows.CureLimitSaid :=
 OpenClaim.holds_of_cond 8 Tryd.f8 rfl rfl rfl rfl rfl rfl rfl ⟨rfl,rfl,rfl,rfl,rfl⟩ rfl rfl rfl rfl rfl (by kernel_rfl) Tryd.func8 (by kernel_rfl)
  (of_decide_eq_true (by kernel_rfl)) (by unfold Func.isWrapper; first | (rw [if_pos (by decide +kernel)]; kernel_rfl) | (rw [if_neg (by decide +kernel)]; exact ⟨rfl,rfl⟩))
  (fun os started H enc _ F=>by rw [OpenClaim.pre_eq_preRow]; exact lifted os started H enc F)
theorem plain (f:FuncId) (fn:Func) (hf:Tryd.pinned.checked.prog.funcNamed "rostellum/rostellumlaw06.CureLimit"=some f) (hfn:Tryd.pinned.checked.prog.funcs[f]?=some fn) :
  false=Tryd.pinned.checked.prog.looks []∧∀ (j:Nat) t,fn.params[j]?=some t→Tryd.pinned.checked.prog.wantsStandIn t=false:=by
 obtain rfl:f=8:=Option.some.inj ((show Tryd.prog.funcNamed "rostellum/rostellumlaw06.CureLimit"=some 8 by kernel_rfl).symm.trans hf) |>.symm
 obtain rfl:fn=Tryd.f8:=(Option.some.inj (Tryd.func8.symm.trans hfn)).symm
 refine ⟨by kernel_rfl,fun j t ht=>?_⟩
 have h1:t ∈ Tryd.f8.params.toList:=by
  rw [← Array.getElem?_toList] at ht
  exact List.mem_of_getElem? ht
 rw [params8] at h1
 have k25:Tryd.prog.wantsStandIn 25=false:=by kernel_rfl
 have k28:Tryd.prog.wantsStandIn 28=false:=by kernel_rfl
 have k30:Tryd.prog.wantsStandIn 30=false:=by kernel_rfl
 rcases mem_all h1 with rfl | rfl | rfl
 ·exact k30
 ·exact k25
 ·exact k28
set_option maxRecDepth 100000 in
theorem card:Rows.CureLimitCardSaid :=
 Claim7.holds_tied_plain_at .later [] _ _ _ _ said (fun _ h=>by cases h) (by kernel_rfl) (fun _ h=>by cases h) cureLimit_row_tie rfl ⟨rfl,rfl⟩ (by kernel_rfl) rfl plain (by kernel_rfl)
end Go.Proofs.YtnmamelclmfplaaDoor.walk
