/- Part of a proof: see the text with the theorem. -/
import Derived.Test.YtdgllbepplldoaaGreatDoorShF
import Derived.KernelRfl
import Derived.Test.YtdgllbepplldoaaGreatDoorProg
set_option linter.all false
namespace Go.Proofs.YtdgllbepplldoaaGreatDoor.walk
open Go Go.Sh
set_option maxRecDepth 100000
@[simp] theorem ne22 (c:Bool) (x y:Value) (w:AW):(binW Tryz.prog .neq 22 c).val x y w=vR w ((eqFlat false [0] x y).map fun b=>.bool (!b)):=bin_neq (by kernel_rfl) c x y
@[simp] theorem ne3 (c:Bool) (x y:Value) (w:AW):(binW Tryz.prog .neq 3 c).val x y w=vR w ((eqFlat false [0] x y).map fun b=>.bool (!b)):=bin_neq (by kernel_rfl) c x y
@[simp] theorem ld3 (w:AW) (a:Addr):loadA Tryz.prog w 3 (.pointer (some a))=vR w (rd1 w a.block a.off):=load_one (by kernel_rfl) a
@[simp] theorem eq3 (c:Bool) (x y:Value) (w:AW):(binW Tryz.prog .eql 3 c).val x y w=vR w ((eqFlat false [0] x y).map .bool):=bin_eql (by kernel_rfl) c x y
@[simp] theorem ix9 (w:AW) (a:ByteArray) (k:IntKind) (i:Nat) (b:UInt8) (hb:a.data.toList[i]?=some b):indexA Tryz.prog w 9 (.string a) (.int k (i:Int))=.val (.int .u8 (b.toNat:Int)) w:=index_string (by kernel_rfl) a k i b hb
@[simp] theorem bd33_0_n1 (w:AW) (x0:Int):buildSliceA Tryz.prog w 33 1 [(0,.int .i64 x0)]=.val (.slice (some ⟨w.next,0,some 2⟩) 1 1) ⟨w.heap.put w.next (some (.cells [.int .i64 x0] 3 false)),w.next + 1,w.lim⟩:=by kernel_rfl
@[simp] theorem len33 (w:AW) (a:Option Addr) (n c:Nat):lenB Tryz.prog w 33 (.slice a n c)=.val (.int .i64 n) w:=len_slice (e:=3) (by kernel_rfl) a n c
@[simp] theorem ia33 (w:AW) (a:Addr) (n c:Nat) (k:IntKind) (i:Nat) (hi:i < n):indexAddrA Tryz.prog w 33 (.slice (some a) n c) (.int k (i:Int))=.val (.pointer (some (a.add (i * 1)))) w:=indexAddr_slice (e:=3) (by kernel_rfl) (by kernel_rfl) a n c k i hi
noncomputable def mc23:MC:=.seq (.ops [⟨false,none,some 6,4,.assign (.const (.bool false))⟩]) (.seq (.ops [⟨false,none,some 7,3,.move (.tmp 1)⟩,⟨false,none,some 8,3,.move (.tmp 0)⟩,⟨false,none,some 9,4,.binOp .leq 3 (.tmp 7) (.tmp 8) 3⟩,⟨false,none,some 10,4,.move (.tmp 9)⟩,⟨false,some (10,true),some 11,3,.move (.tmp 0)⟩,⟨false,some (10,true),some 12,3,.move (.tmp 2)⟩,⟨false,some (10,true),some 13,4,.binOp .leq 3 (.tmp 11) (.tmp 12) 3⟩,⟨false,none,some 14,4,.pick (.tmp 10) (.tmp 13) (.const (.bool false))⟩,⟨false,none,some 6,4,.assign (.tmp 14)⟩]) (.ret))
theorem text23:textF Tryz.prog 23=some (15,[.tmp 6],mc23):=by kernel_rfl
noncomputable def mc58:MC:=.seq (.ops [⟨false,none,some 6,4,.assign (.const (.bool false))⟩]) (.seq (.ops [⟨false,none,some 7,3,.move (.tmp 1)⟩,⟨false,none,some 8,3,.move (.tmp 0)⟩,⟨false,none,some 9,4,.binOp .leq 3 (.tmp 7) (.tmp 8) 3⟩,⟨false,none,some 10,4,.move (.tmp 9)⟩,⟨false,some (10,true),some 11,3,.move (.tmp 0)⟩,⟨false,some (10,true),some 12,3,.move (.tmp 2)⟩,⟨false,some (10,true),some 13,4,.binOp .leq 3 (.tmp 11) (.tmp 12) 3⟩,⟨false,none,some 14,4,.pick (.tmp 10) (.tmp 13) (.const (.bool false))⟩,⟨false,none,some 6,4,.assign (.tmp 14)⟩]) (.ret))
theorem text58:textF Tryz.prog 58=some (15,[.tmp 6],mc58):=by kernel_rfl
@[simp] theorem cf15 (w:AW) (l:List Value):callFn Tryz.prog w 15 l=.enter 15 l w:=callFn_of (by kernel_rfl) l
@[simp] theorem cf58 (w:AW) (l:List Value):callFn Tryz.prog w 58 l=.enter 58 l w:=callFn_enter text58 l
end Go.Proofs.YtdgllbepplldoaaGreatDoor.walk
namespace Go.Sh
def sumW (f w:Nat→Int):Nat→Int
 | 0=>0
 | n + 1=>sumW f w n + f n * w n
def pwI (i:Nat):Int:=2 ^ (i + 1)
end Go.Sh
namespace Go.Sh
def sgL:List UInt8:=[97,98,99,100,101,102,103,104,105,106,107,108,109,110,111,112,113,114,115,116,117,118,119,120,121,122,48,49,50,51,52,53,54,55,56,57,45]
def sgV (c:UInt8):Nat:=sgL.idxOf c
def sgB (c:UInt8):Bool:=decide (sgV c < 37)
def vfI (s:List UInt8) (j:Nat):Int:=match s[j]? with | some c=>(sgV c:Int) | none=>0
def areB (s:List UInt8) (lo hi:Nat):Bool:=(decide (lo≤s.length) && decide (s.length≤hi)) && s.all sgB
def chkN (s:List UInt8):Nat:=(sumW (vfI s) pwI s.length % 37).toNat
def chkS (s:List UInt8):UInt8:=sgL.getD (chkN s) 0
def codeB (s:List UInt8):Bool:=areB s 2 17 && decide (s.getLast?=some (chkS s.dropLast))
def repL (s:List UInt8) (i:Nat):List (List UInt8):=(sgL.filter fun c=>decide (s[i]? ≠ some c)).map fun c=>s.set i c
def excL (s:List UInt8) (i:Nat):List (List UInt8):=match s[i]?,s[i + 1]? with
 | some a,some b=>if a=b then [] else [(s.set i b).set (i + 1) a]
 | _,_=>[]
def fltL (s:List UInt8):List (List UInt8):=(List.range s.length).flatMap (repL s)++(List.range (s.length - 1)).flatMap (excL s)
def nearU (s:List UInt8):List (List UInt8):=(fltL s).filter codeB
structure Rep (s:List UInt8) (i:Nat) (x:List UInt8):Prop where
 lt:i < s.length
 ex:∃ c,sgB c=true∧s[i]? ≠ some c∧x=s.set i c
structure Exc (s:List UInt8) (i:Nat) (x:List UInt8):Prop where
 lt:i + 1 < s.length
 ex:∃ a b,s[i]?=some a∧s[i + 1]?=some b∧a ≠ b∧x=(s.set i b).set (i + 1) a
theorem Rep.at_ {s x:List UInt8} {i:Nat} (h:Rep s i x):x.length=s.length∧x[i]? ≠ s[i]?∧∀ k:Nat,k ≠ i→x[k]?=s[k]?:=by
 obtain ⟨hi,c,_,h2,rfl⟩:=h
 refine ⟨List.length_set,?_,fun k hk=>List.getElem?_set_ne (Ne.symm hk)⟩
 rw [List.getElem?_set_self hi]
 exact Ne.symm h2
theorem Exc.at_ {s x:List UInt8} {i:Nat} (h:Exc s i x):x.length=s.length∧x[i]?=s[i + 1]?∧x[i + 1]?=s[i]?∧x[i]? ≠ s[i]?∧x[i + 1]? ≠ s[i + 1]?∧∀ k:Nat,k ≠ i→k ≠ i + 1→x[k]?=s[k]?:=by
 obtain ⟨hi,a,b,h1,h2,h3,rfl⟩:=h
 have e1:((s.set i b).set (i + 1) a)[i]?=some b:=by
  rw [List.getElem?_set_ne (by omega),List.getElem?_set_self (by omega)]
 have e2:((s.set i b).set (i + 1) a)[i + 1]?=some a:=by
  rw [List.getElem?_set_self (by rw [List.length_set]; exact hi)]
 refine ⟨by rw [List.length_set,List.length_set],by rw [e1,h2],by rw [e2,h1],?_,?_,fun k hk hk'=>?_⟩
 ·rw [e1,h1]; intro e; exact h3 (Option.some.inj e).symm
 ·rw [e2,h2]; intro e; exact h3 (Option.some.inj e)
 ·rw [List.getElem?_set_ne (Ne.symm hk'),List.getElem?_set_ne (Ne.symm hk)]
end Go.Sh
namespace Go.Sh
open Go
variable {P:Program}
structure PSpec where
 R:List Value→AW→Value→Prop
 uniq:∀ {args w v v'},R args w v→R args w v'→v=v'
 shut:∀ {args w v},R args w v→R args (shutA w) v
open Classical in
noncomputable def PSpec.F (S:PSpec):PureF:=fun args w=>if h:∃ v,S.R args w v then some h.choose else none
theorem PSpec.F_eq (S:PSpec) {args:List Value} {w:AW} {v:Value} (h:S.R args w v):S.F args w=some v:=by
 have hx:∃ v,S.R args w v:=⟨v,h⟩
 unfold PSpec.F
 rw [dif_pos hx]
 exact congrArg some (S.uniq hx.choose_spec h)
theorem PSpec.of_F (S:PSpec) {args:List Value} {w:AW} {v:Value} (h:S.F args w=some v):S.R args w v:=by
 unfold PSpec.F at h
 by_cases hx:∃ v,S.R args w v
 ·rw [dif_pos hx] at h
  cases h
  exact hx.choose_spec
 ·rw [dif_neg hx] at h; cases h
theorem PSpec.call (S:PSpec) {ov:Ov} {f:FuncId} (k:HasP ov f S.F) {m:Nat} {args:List Value} {w:AW} {v:Value} (h:S.R args w v):(run P ov (m + 1)).call f args w .none=.ok (.ret v) w .none:=k.call (S.F_eq h)
theorem PSpec.ok (S:PSpec) (hP:NoCount P) (hm:P.follows .mixedOrders=true) {rest:Ov} (hO:OvOk P rest) {f:FuncId}
  (fact:∀ args w v,w.lim=w.next→S.R args w v→groundC 3 v=true∧∃ m v' w' x',(run P rest m).call f args w .none=.ok (.ret v') w' x'∧v'=v):OvOk P (ovP f S.F rest) :=
 pure_ok hP hm hO (fun args w v h=>S.F_eq (S.shut (S.of_F h))) fun args w v hl h=>by
  obtain ⟨h1,m,v',w',x',h2,rfl⟩:=fact args w v hl (S.of_F h)
  exact ⟨h1,m,w',x',h2⟩
structure Up (we w:AW):Prop where
 old:Old we.next we.heap w.heap
 next:we.next≤w.next
 lim:w.lim=we.lim
theorem Up.refl (w:AW):Up w w:=⟨Old.refl _ _,Nat.le_refl _,rfl⟩
theorem Up.trans {a b c:AW} (h:Up a b) (k:Up b c):Up a c:=⟨h.old.trans k.old h.next,Nat.le_trans h.next k.next,k.lim.trans h.lim⟩
theorem Up.put {we:AW} {H:T AObj} {n n' l k:Nat} {o:Option AObj} (h:Up we ⟨H,n,l⟩) (hk:we.next≤k) (hn:n≤n'):Up we ⟨H.put k o,n',l⟩:=⟨h.old.put hk,Nat.le_trans h.next hn,h.lim⟩
theorem Up.add {we w:AW} (h:Up we w) (o:Option AObj):Up we ⟨w.heap.put w.next o,w.next + 1,w.lim⟩:=⟨h.old.put h.next,Nat.le_trans h.next (Nat.le_succ _),h.lim⟩
theorem Up.at {we w:AW} (h:Up we w) {b:Nat} (hb:b < we.next):w.heap.get b=we.heap.get b:=h.old b hb
theorem RowsV.up {α:Type} {f:α→List Value} {we w:AW} {v:Value} {l:List α} (h:RowsV f we v l) (k:Up we w):RowsV f w v l:=h.old k.old k.next
variable {w:AW}
end Go.Sh
namespace Go.Sh
open Go
variable {α:Type}
theorem AccR.push2 {P:Program} {st e:TypeId} {sz:Nat} {f:α→List Value} (h0:isList P st=true) (h1:elemA P st=some e) (h2:szOf P e=some sz) (h3:smallT P e=true) (hf:∀ a,(f a).length=sz) (hs:∀ a,singles (f a)=true) (hz:0 < sz)
  {n0:Nat} {w:AW} {v:Value} {acc:List α} (h:AccR f e n0 w v acc) (hl:w.lim≤n0) (hn:n0 < w.next) (hlen:acc.length≤90000) (y:α) :
  ∃ v' w',append1 P ⟨w.heap.put w.next (some (.cells (f y) e false)),w.next + 1,w.lim⟩ [st,st] [v,.slice (some ⟨w.next,0,some 2⟩) 1 1]=.val v' w'∧AccR f e n0 w' v' (acc++[y])∧(∀ x,x≤n0→w'.heap.get x=w.heap.get x)∧w.next≤w'.next∧w'.lim=w.lim:=by
 have hsrc:srcCells ⟨w.heap.put w.next (some (.cells (f y) e false)),w.next + 1,w.lim⟩ sz (.slice (some ⟨w.next,0,some 2⟩) 1 1)=some (f y):=src_row (e':=e) (ro:=false) (k:=1) (by simp) (by simp [hf]) (by decide) hz
 rcases h with ⟨rfl,rfl⟩ | ⟨B,rfl,hB,k1,k2,_⟩
 ·refine ⟨_,_,append_nil h0 h1 h2 h3 (m:=1) rfl hsrc (by simp [hf]) (by decide) (by decide),.inr ⟨_,rfl,?_,?_,?_,by simp⟩,fun x hx=>?_,?_,rfl⟩
  ·simp
  ·show n0 < w.next + 1; omega
  ·exact Nat.lt_succ_self _
  ·show ((w.heap.put w.next _).put (w.next + 1) _).get x=_
   rw [get_put,if_neg (by omega),get_put,if_neg (by omega)]
  ·show w.next≤w.next + 1 + 1; omega
 ·have hB':(w.heap.put w.next (some (.cells (f y) e false))).get B=some (.cells (acc.flatMap f) e false):=by rw [get_put,if_neg (by omega)]; exact hB
  refine ⟨_,_,append_full h0 h1 h2 h3 (n:=acc.length) (m:=1) (c:=acc.flatMap f) rfl hsrc (by simp [hf]) (hs y) (by decide) (by omega) hB' (flat_length hf acc) (by show w.lim≤B; omega),.inr ⟨w.next + 1,?_,?_,?_,?_,by simp⟩,fun x hx=>?_,?_,rfl⟩
  ·simp
  ·show (((w.heap.put w.next _).put B none).put (w.next + 1) _).get (w.next + 1)=_
   rw [get_put,if_pos rfl]; simp
  ·omega
  ·exact Nat.lt_succ_self _
  ·show (((w.heap.put w.next _).put B none).put (w.next + 1) _).get x=_
   rw [get_put,if_neg (by omega),get_put,if_neg (by omega),get_put,if_neg (by omega)]
  ·show w.next≤w.next + 1 + 1; omega
theorem AccQ.push2 {P:Program} {st e:TypeId} {sz:Nat} {f:α→List Value} (h0:isList P st=true) (h1:elemA P st=some e) (h2:szOf P e=some sz) (h3:smallT P e=true) (hf:∀ a,(f a).length=sz) (hs:∀ a,singles (f a)=true) (hz:0 < sz)
  {n0:Nat} {w:AW} {v:Value} {acc:List α} {B:Nat} (h:AccQ f e n0 w v acc B) (hl:w.lim≤n0) (hn:n0 < w.next) (hlen:acc.length≤90000) (y:α) :
  ∃ v' w',append1 P ⟨w.heap.put w.next (some (.cells (f y) e false)),w.next + 1,w.lim⟩ [st,st] [v,.slice (some ⟨w.next,0,some 2⟩) 1 1]=.val v' w'∧(∃ B',w.next≤B'∧AccQ f e n0 w' v' (acc++[y]) B')∧(∀ x,x < w.next→(acc ≠ []→x ≠ B)→w'.heap.get x=w.heap.get x)∧w.next≤w'.next∧w'.lim=w.lim:=by
 have hsrc:srcCells ⟨w.heap.put w.next (some (.cells (f y) e false)),w.next + 1,w.lim⟩ sz (.slice (some ⟨w.next,0,some 2⟩) 1 1)=some (f y):=src_row (e':=e) (ro:=false) (k:=1) (by simp) (by simp [hf]) (by decide) hz
 rcases h with ⟨rfl,rfl⟩ | ⟨rfl,hB,k1,k2,k3⟩
 ·refine ⟨_,_,append_nil h0 h1 h2 h3 (m:=1) rfl hsrc (by simp [hf]) (by decide) (by decide),⟨w.next + 1,Nat.le_succ _,.inr ⟨rfl,?_,?_,?_,by simp⟩⟩,fun x hx _=>?_,?_,rfl⟩
  ·simp
  ·show n0 < w.next + 1; omega
  ·exact Nat.lt_succ_self _
  ·show ((w.heap.put w.next _).put (w.next + 1) _).get x=_
   rw [get_put,if_neg (by omega),get_put,if_neg (by omega)]
  ·show w.next≤w.next + 1 + 1; omega
 ·have hB':(w.heap.put w.next (some (.cells (f y) e false))).get B=some (.cells (acc.flatMap f) e false):=by rw [get_put,if_neg (by omega)]; exact hB
  refine ⟨_,_,append_full h0 h1 h2 h3 (n:=acc.length) (m:=1) (c:=acc.flatMap f) rfl hsrc (by simp [hf]) (hs y) (by decide) (by omega) hB' (flat_length hf acc) (by show w.lim≤B; omega),⟨w.next + 1,Nat.le_succ _,.inr ⟨?_,?_,?_,?_,by simp⟩⟩,fun x hx hne=>?_,?_,rfl⟩
  ·simp
  ·show (((w.heap.put w.next _).put B none).put (w.next + 1) _).get (w.next + 1)=_
   rw [get_put,if_pos rfl]; simp
  ·show n0 < w.next + 1; omega
  ·exact Nat.lt_succ_self _
  ·have:=hne k3
   show (((w.heap.put w.next _).put B none).put (w.next + 1) _).get x=_
   rw [get_put,if_neg (by omega),get_put,if_neg (by omega),get_put,if_neg (by omega)]
  ·show w.next≤w.next + 1 + 1; omega
section
variable {P:Program}
end
end Go.Sh
namespace Go.Sh
open Go
section
variable {P:Program}
theorem append_copy {st e:TypeId} {sz:Nat} (h0:isList P st=true) (h1:elemA P st=some e) (h2:szOf P e=some sz) (h3:smallT P e=true) {w:AW} {B n m:Nat} {c new:List Value} {x:Value} (h4:lenA x=some m) (h5:srcCells w sz x=some new) (hl:new.length=m * sz) (hm:0 < m) (hnm:n + m≤100000)
  (hg:srcCells w sz (.slice (some ⟨B,0,some 2⟩) n n)=some c) (hc:c.length=n * sz) :
  append1 P w [st,st] [.slice (some ⟨B,0,some 2⟩) n n,x]=.val (.slice (some ⟨w.next,0,none⟩) (n + m) (n + m)) ⟨w.heap.put w.next (some (.cells (c++new) e false)),w.next + 1,w.lim⟩:=by
 rw [append_eq h0 h1 h2 h3,h4,h5]
 have e1:Nat.ble (n + m) 1000000=true:=Nat.ble_eq_true_of_le (by omega)
 have e2:Nat.beq (lenL new 0) (m * sz)=true:=by rw [lenL0,hl]; exact Nat.beq_refl _
 have e3:Nat.beq m 0=false:=by rw [← Bool.not_eq_true]; intro h; have:=Nat.eq_of_beq_eq_true h; omega
 have e4:Nat.ble (n + m) n=false:=by rw [← Bool.not_eq_true]; intro h; have:=Nat.le_of_ble_eq_true h; omega
 have e6:isExact (some 2)=true:=rfl
 simp only [e1,e2,Bool.and_self,cond_true,appendB,e3,cond_false,e4,hg,e6,appendCopy]
 have e7:Nat.beq (lenL c 0) (n * sz)=true:=by rw [lenL0,hc]; exact Nat.beq_refl _
 simp [e7,newR,AW.add,rowV,appL_eq]
end
variable {α:Type}
def LitQ (f:α→List Value) (e:TypeId) (n0:Nat) (w:AW) (v:Value) (acc:List α) (B:Nat):Prop :=
 acc ≠ []∧w.heap.get B=some (.cells (acc.flatMap f) e false)∧B < w.next∧(v=.slice (some ⟨B,0,some 2⟩) acc.length acc.length∨(v=.slice (some ⟨B,0,none⟩) acc.length acc.length∧n0 < B))
theorem LitQ.keep {f:α→List Value} {e:TypeId} {n0:Nat} {w w':AW} {v:Value} {acc:List α} {B:Nat} (h:LitQ f e n0 w v acc B) (k:w'.heap.get B=w.heap.get B) (hn:w.next≤w'.next):LitQ f e n0 w' v acc B:=by
 obtain ⟨h1,h2,h3,h4⟩:=h
 exact ⟨h1,by rw [k]; exact h2,by omega,h4⟩
theorem LitQ.rows {f:α→List Value} {e:TypeId} {n0:Nat} {w:AW} {v:Value} {acc:List α} {B:Nat} (h:LitQ f e n0 w v acc B):RowsV f w v acc:=by
 obtain ⟨h1,h2,h3,h4⟩:=h
 rcases h4 with rfl | ⟨rfl,_⟩
 ·exact .inr ⟨B,0,_,_,rfl,⟨[],[],e,false,by simpa using h2,rfl⟩,h3⟩
 ·exact .inr ⟨B,0,_,_,rfl,⟨[],[],e,false,by simpa using h2,rfl⟩,h3⟩
theorem LitQ.ok {f:α→List Value} {e:TypeId} {n0:Nat} {w:AW} {v:Value} {acc:List α} {B:Nat} (h:LitQ f e n0 w v acc B):notJunk v=some v:=by
 obtain ⟨_,_,_,rfl | ⟨rfl,_⟩⟩:=h <;> rfl
theorem LitQ.slice {f:α→List Value} {e:TypeId} {n0:Nat} {w:AW} {v:Value} {acc:List α} {B:Nat} (h:LitQ f e n0 w v acc B):∃ sq,v=.slice (some ⟨B,0,sq⟩) acc.length acc.length:=by
 obtain ⟨_,_,_,rfl | ⟨rfl,_⟩⟩:=h <;> exact ⟨_,rfl⟩
theorem LitQ.push2 {P:Program} {st e:TypeId} {sz:Nat} {f:α→List Value} (h0:isList P st=true) (h1:elemA P st=some e) (h2:szOf P e=some sz) (h3:smallT P e=true) (hf:∀ a,(f a).length=sz) (hs:∀ a,singles (f a)=true) (hz:0 < sz)
  {n0:Nat} {w:AW} {v:Value} {acc:List α} {B:Nat} (h:LitQ f e n0 w v acc B) (hl:w.lim≤n0) (hn:n0 < w.next) (hlen:acc.length≤90000) (y:α) :
  ∃ v' w',append1 P ⟨w.heap.put w.next (some (.cells (f y) e false)),w.next + 1,w.lim⟩ [st,st] [v,.slice (some ⟨w.next,0,some 2⟩) 1 1]=.val v' w'∧(∃ B',w.next≤B'∧LitQ f e n0 w' v' (acc++[y]) B')∧(∀ x,x < w.next→(n0 < B→x ≠ B)→w'.heap.get x=w.heap.get x)∧w.next≤w'.next∧w'.lim=w.lim:=by
 have hsrc:srcCells ⟨w.heap.put w.next (some (.cells (f y) e false)),w.next + 1,w.lim⟩ sz (.slice (some ⟨w.next,0,some 2⟩) 1 1)=some (f y):=src_row (e':=e) (ro:=false) (k:=1) (by simp) (by simp [hf]) (by decide) hz
 obtain ⟨k1,k2,k3,k4⟩:=h
 have hp:0 < acc.length:=List.length_pos_iff.2 k1
 have hB':(w.heap.put w.next (some (.cells (f y) e false))).get B=some (.cells (acc.flatMap f) e false):=by rw [get_put,if_neg (by omega)]; exact k2
 rcases k4 with rfl | ⟨rfl,k4⟩
 ·have hg:srcCells ⟨w.heap.put w.next (some (.cells (f y) e false)),w.next + 1,w.lim⟩ sz (.slice (some ⟨B,0,some 2⟩) acc.length acc.length)=some (acc.flatMap f):=src_row (e':=e) (ro:=false) (k:=acc.length) hB' (flat_length hf acc) hp hz
  refine ⟨_,_,append_copy h0 h1 h2 h3 (n:=acc.length) (m:=1) (c:=acc.flatMap f) rfl hsrc (by simp [hf]) (by decide) (by omega) hg (flat_length hf acc),⟨w.next + 1,Nat.le_succ _,by simp,?_,Nat.lt_succ_self _,.inr ⟨by simp,by show n0 < w.next + 1; omega⟩⟩,fun x hx _=>?_,?_,rfl⟩
  ·simp
  ·show ((w.heap.put w.next _).put (w.next + 1) _).get x=_
   rw [get_put,if_neg (by omega),get_put,if_neg (by omega)]
  ·show w.next≤w.next + 1 + 1; omega
 ·refine ⟨_,_,append_full h0 h1 h2 h3 (n:=acc.length) (m:=1) (c:=acc.flatMap f) rfl hsrc (by simp [hf]) (hs y) (by decide) (by omega) hB' (flat_length hf acc) (by show w.lim≤B; omega),⟨w.next + 1,Nat.le_succ _,by simp,?_,Nat.lt_succ_self _,.inr ⟨by simp,by show n0 < w.next + 1; omega⟩⟩,fun x hx hne=>?_,?_,rfl⟩
  ·simp
  ·have:=hne k4
   show (((w.heap.put w.next _).put B none).put (w.next + 1) _).get x=_
   rw [get_put,if_neg (by omega),get_put,if_neg (by omega),get_put,if_neg (by omega)]
  ·show w.next≤w.next + 1 + 1; omega
end Go.Sh
namespace Go.Proofs.YtdgllbepplldoaaGreatDoor.walk
open Go Go.Sh
set_option maxRecDepth 100000
def bV (c:UInt8):Value:=.int .u8 (c.toNat:Int)
def sgC:List Value:=sgL.map bV
def SgAt (w:AW):Prop:=∃ ty ro,w.heap.get 0=some (.cells sgC ty ro)
theorem SgAt.up {w w':AW} (h:SgAt w) (u:Up w w') (h0:0 < w.next):SgAt w':=by
 obtain ⟨ty,ro,g⟩:=h
 exact ⟨ty,ro,by rw [u.at h0]; exact g⟩
theorem byte_eq {c d:UInt8}:((c.toNat:Int)=(d.toNat:Int)) ↔ c=d:=⟨fun h=>UInt8.toNat_inj.1 (by omega),fun h=>by rw [h]⟩
theorem run58 {ov:Ov} (ho:∀ args w,ov 58 args w=none) (m:Nat) (n a b:Int) (w:AW):(run Tryz.prog ov (m + 1)).call 58 [.int .i64 n,.int .i64 a,.int .i64 b] w .none=.ok (.ret (.bool (decide (a≤n) && decide (n≤b)))) w .none:=by
 have key:∃ v w',(run Tryz.prog ov (m + 1)).call 58 [.int .i64 n,.int .i64 a,.int .i64 b] w .none=.ok (.ret v) w' .none∧v=.bool (decide (a≤n) && decide (n≤b))∧w'=w:=by
  refine call_wp text58 (by simp) (ho _ _) ?_
  by_cases h1:a≤n <;> simp [mc58,h1,tupV]
 obtain ⟨v,w',h,rfl,rfl⟩:=key
 exact h
end Go.Proofs.YtdgllbepplldoaaGreatDoor.walk
namespace Go.Sh
open Go
variable {α:Type}
theorem AccR.push3 {P:Program} {st e:TypeId} {sz:Nat} {f:α→List Value} (h0:isList P st=true) (h1:elemA P st=some e) (h2:szOf P e=some sz) (h3:smallT P e=true) (hf:∀ a,(f a).length=sz) (hs:∀ a,singles (f a)=true) (hz:0 < sz)
  {n0:Nat} {w:AW} {v:Value} {acc:List α} (h:AccR f e n0 w v acc) (hl:w.lim≤n0) (hn:n0≤w.next) (hlen:acc.length≤90000) (y:α) :
  ∃ v' w',append1 P ⟨w.heap.put w.next (some (.cells (f y) e false)),w.next + 1,w.lim⟩ [st,st] [v,.slice (some ⟨w.next,0,some 2⟩) 1 1]=.val v' w'∧AccR f e n0 w' v' (acc++[y])∧(∀ x,x < n0→w'.heap.get x=w.heap.get x)∧w.next≤w'.next∧w'.lim=w.lim:=by
 have hsrc:srcCells ⟨w.heap.put w.next (some (.cells (f y) e false)),w.next + 1,w.lim⟩ sz (.slice (some ⟨w.next,0,some 2⟩) 1 1)=some (f y):=src_row (e':=e) (ro:=false) (k:=1) (by simp) (by simp [hf]) (by decide) hz
 rcases h with ⟨rfl,rfl⟩ | ⟨B,rfl,hB,k1,k2,_⟩
 ·refine ⟨_,_,append_nil h0 h1 h2 h3 (m:=1) rfl hsrc (by simp [hf]) (by decide) (by decide),.inr ⟨_,rfl,?_,?_,?_,by simp⟩,fun x hx=>?_,?_,rfl⟩
  ·simp
  ·show n0 < w.next + 1; omega
  ·exact Nat.lt_succ_self _
  ·show ((w.heap.put w.next _).put (w.next + 1) _).get x=_
   rw [get_put,if_neg (by omega),get_put,if_neg (by omega)]
  ·show w.next≤w.next + 1 + 1; omega
 ·have hB':(w.heap.put w.next (some (.cells (f y) e false))).get B=some (.cells (acc.flatMap f) e false):=by rw [get_put,if_neg (by omega)]; exact hB
  refine ⟨_,_,append_full h0 h1 h2 h3 (n:=acc.length) (m:=1) (c:=acc.flatMap f) rfl hsrc (by simp [hf]) (hs y) (by decide) (by omega) hB' (flat_length hf acc) (by show w.lim≤B; omega),.inr ⟨w.next + 1,?_,?_,?_,?_,by simp⟩,fun x hx=>?_,?_,rfl⟩
  ·simp
  ·show (((w.heap.put w.next _).put B none).put (w.next + 1) _).get (w.next + 1)=_
   rw [get_put,if_pos rfl]; simp
  ·omega
  ·exact Nat.lt_succ_self _
  ·show (((w.heap.put w.next _).put B none).put (w.next + 1) _).get x=_
   rw [get_put,if_neg (by omega),get_put,if_neg (by omega),get_put,if_neg (by omega)]
  ·show w.next≤w.next + 1 + 1; omega
end Go.Sh
