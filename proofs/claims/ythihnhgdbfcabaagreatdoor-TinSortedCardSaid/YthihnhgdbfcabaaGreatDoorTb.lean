/- Part of a proof: see the text with the theorem. -/
import Derived.Test.YthihnhgdbfcabaaGreatDoorShF
import Derived.Test.YthihnhgdbfcabaaGreatDoorTa
set_option linter.all false
namespace Go.Sh
open Go
variable {P:Program}
structure PSpec where
 R:List Value→AW→Value→Prop
 uniq:∀ {args w v v'},R args w v→R args w v'→v=v'
 shut:∀ {args w v},R args w v→R args (shutA w) v
open Classical in
noncomputable def PSpec.F (S:PSpec):PureF:=fun args w=>if h:∃ v,S.R args w v then some h.choose else none
theorem PSpec.F_eq (S:PSpec) {args:List Value} {w:AW} {v:Value} (h:S.R args w v):S.F args w=some v:=by
 have hx:∃ v,S.R args w v:=⟨v,h⟩
 unfold PSpec.F
 rw [dif_pos hx]
 exact congrArg some (S.uniq hx.choose_spec h)
theorem PSpec.of_F (S:PSpec) {args:List Value} {w:AW} {v:Value} (h:S.F args w=some v):S.R args w v:=by
 unfold PSpec.F at h
 by_cases hx:∃ v,S.R args w v
 ·rw [dif_pos hx] at h
  cases h
  exact hx.choose_spec
 ·rw [dif_neg hx] at h; cases h
theorem PSpec.call (S:PSpec) {ov:Ov} {f:FuncId} (k:HasP ov f S.F) {m:Nat} {args:List Value} {w:AW} {v:Value} (h:S.R args w v):(run P ov (m + 1)).call f args w .none=.ok (.ret v) w .none:=k.call (S.F_eq h)
theorem PSpec.ok (S:PSpec) (hP:NoCount P) (hm:P.follows .mixedOrders=true) {rest:Ov} (hO:OvOk P rest) {f:FuncId}
  (fact:∀ args w v,w.lim=w.next→S.R args w v→groundC 3 v=true∧∃ m v' w' x',(run P rest m).call f args w .none=.ok (.ret v') w' x'∧v'=v):OvOk P (ovP f S.F rest) :=
 pure_ok hP hm hO (fun args w v h=>S.F_eq (S.shut (S.of_F h))) fun args w v hl h=>by
  obtain ⟨h1,m,v',w',x',h2,rfl⟩:=fact args w v hl (S.of_F h)
  exact ⟨h1,m,w',x',h2⟩
structure Up (we w:AW):Prop where
 old:Old we.next we.heap w.heap
 next:we.next≤w.next
 lim:w.lim=we.lim
theorem Up.refl (w:AW):Up w w:=⟨Old.refl _ _,Nat.le_refl _,rfl⟩
theorem Up.trans {a b c:AW} (h:Up a b) (k:Up b c):Up a c:=⟨h.old.trans k.old h.next,Nat.le_trans h.next k.next,k.lim.trans h.lim⟩
theorem Up.put {we:AW} {H:T AObj} {n n' l k:Nat} {o:Option AObj} (h:Up we ⟨H,n,l⟩) (hk:we.next≤k) (hn:n≤n'):Up we ⟨H.put k o,n',l⟩:=⟨h.old.put hk,Nat.le_trans h.next hn,h.lim⟩
theorem Up.add {we w:AW} (h:Up we w) (o:Option AObj):Up we ⟨w.heap.put w.next o,w.next + 1,w.lim⟩:=⟨h.old.put h.next,Nat.le_trans h.next (Nat.le_succ _),h.lim⟩
theorem Up.at {we w:AW} (h:Up we w) {b:Nat} (hb:b < we.next):w.heap.get b=we.heap.get b:=h.old b hb
theorem RowsV.up {α:Type} {f:α→List Value} {we w:AW} {v:Value} {l:List α} (h:RowsV f we v l) (k:Up we w):RowsV f w v l:=h.old k.old k.next
variable {w:AW}
end Go.Sh
namespace Go.Sh
open Go
variable {α:Type}
theorem AccR.push2 {P:Program} {st e:TypeId} {sz:Nat} {f:α→List Value} (h0:isList P st=true) (h1:elemA P st=some e) (h2:szOf P e=some sz) (h3:smallT P e=true) (hf:∀ a,(f a).length=sz) (hs:∀ a,singles (f a)=true) (hz:0 < sz)
  {n0:Nat} {w:AW} {v:Value} {acc:List α} (h:AccR f e n0 w v acc) (hl:w.lim≤n0) (hn:n0 < w.next) (hlen:acc.length≤90000) (y:α) :
  ∃ v' w',append1 P ⟨w.heap.put w.next (some (.cells (f y) e false)),w.next + 1,w.lim⟩ [st,st] [v,.slice (some ⟨w.next,0,some 2⟩) 1 1]=.val v' w'∧AccR f e n0 w' v' (acc++[y])∧(∀ x,x≤n0→w'.heap.get x=w.heap.get x)∧w.next≤w'.next∧w'.lim=w.lim:=by
 have hsrc:srcCells ⟨w.heap.put w.next (some (.cells (f y) e false)),w.next + 1,w.lim⟩ sz (.slice (some ⟨w.next,0,some 2⟩) 1 1)=some (f y):=src_row (e':=e) (ro:=false) (k:=1) (by simp) (by simp [hf]) (by decide) hz
 rcases h with ⟨rfl,rfl⟩ | ⟨B,rfl,hB,k1,k2,_⟩
 ·refine ⟨_,_,append_nil h0 h1 h2 h3 (m:=1) rfl hsrc (by simp [hf]) (by decide) (by decide),.inr ⟨_,rfl,?_,?_,?_,by simp⟩,fun x hx=>?_,?_,rfl⟩
  ·simp
  ·show n0 < w.next + 1; omega
  ·exact Nat.lt_succ_self _
  ·show ((w.heap.put w.next _).put (w.next + 1) _).get x=_
   rw [get_put,if_neg (by omega),get_put,if_neg (by omega)]
  ·show w.next≤w.next + 1 + 1; omega
 ·have hB':(w.heap.put w.next (some (.cells (f y) e false))).get B=some (.cells (acc.flatMap f) e false):=by rw [get_put,if_neg (by omega)]; exact hB
  refine ⟨_,_,append_full h0 h1 h2 h3 (n:=acc.length) (m:=1) (c:=acc.flatMap f) rfl hsrc (by simp [hf]) (hs y) (by decide) (by omega) hB' (flat_length hf acc) (by show w.lim≤B; omega),.inr ⟨w.next + 1,?_,?_,?_,?_,by simp⟩,fun x hx=>?_,?_,rfl⟩
  ·simp
  ·show (((w.heap.put w.next _).put B none).put (w.next + 1) _).get (w.next + 1)=_
   rw [get_put,if_pos rfl]; simp
  ·omega
  ·exact Nat.lt_succ_self _
  ·show (((w.heap.put w.next _).put B none).put (w.next + 1) _).get x=_
   rw [get_put,if_neg (by omega),get_put,if_neg (by omega),get_put,if_neg (by omega)]
  ·show w.next≤w.next + 1 + 1; omega
theorem AccQ.push2 {P:Program} {st e:TypeId} {sz:Nat} {f:α→List Value} (h0:isList P st=true) (h1:elemA P st=some e) (h2:szOf P e=some sz) (h3:smallT P e=true) (hf:∀ a,(f a).length=sz) (hs:∀ a,singles (f a)=true) (hz:0 < sz)
  {n0:Nat} {w:AW} {v:Value} {acc:List α} {B:Nat} (h:AccQ f e n0 w v acc B) (hl:w.lim≤n0) (hn:n0 < w.next) (hlen:acc.length≤90000) (y:α) :
  ∃ v' w',append1 P ⟨w.heap.put w.next (some (.cells (f y) e false)),w.next + 1,w.lim⟩ [st,st] [v,.slice (some ⟨w.next,0,some 2⟩) 1 1]=.val v' w'∧(∃ B',w.next≤B'∧AccQ f e n0 w' v' (acc++[y]) B')∧(∀ x,x < w.next→(acc ≠ []→x ≠ B)→w'.heap.get x=w.heap.get x)∧w.next≤w'.next∧w'.lim=w.lim:=by
 have hsrc:srcCells ⟨w.heap.put w.next (some (.cells (f y) e false)),w.next + 1,w.lim⟩ sz (.slice (some ⟨w.next,0,some 2⟩) 1 1)=some (f y):=src_row (e':=e) (ro:=false) (k:=1) (by simp) (by simp [hf]) (by decide) hz
 rcases h with ⟨rfl,rfl⟩ | ⟨rfl,hB,k1,k2,k3⟩
 ·refine ⟨_,_,append_nil h0 h1 h2 h3 (m:=1) rfl hsrc (by simp [hf]) (by decide) (by decide),⟨w.next + 1,Nat.le_succ _,.inr ⟨rfl,?_,?_,?_,by simp⟩⟩,fun x hx _=>?_,?_,rfl⟩
  ·simp
  ·show n0 < w.next + 1; omega
  ·exact Nat.lt_succ_self _
  ·show ((w.heap.put w.next _).put (w.next + 1) _).get x=_
   rw [get_put,if_neg (by omega),get_put,if_neg (by omega)]
  ·show w.next≤w.next + 1 + 1; omega
 ·have hB':(w.heap.put w.next (some (.cells (f y) e false))).get B=some (.cells (acc.flatMap f) e false):=by rw [get_put,if_neg (by omega)]; exact hB
  refine ⟨_,_,append_full h0 h1 h2 h3 (n:=acc.length) (m:=1) (c:=acc.flatMap f) rfl hsrc (by simp [hf]) (hs y) (by decide) (by omega) hB' (flat_length hf acc) (by show w.lim≤B; omega),⟨w.next + 1,Nat.le_succ _,.inr ⟨?_,?_,?_,?_,by simp⟩⟩,fun x hx hne=>?_,?_,rfl⟩
  ·simp
  ·show (((w.heap.put w.next _).put B none).put (w.next + 1) _).get (w.next + 1)=_
   rw [get_put,if_pos rfl]; simp
  ·show n0 < w.next + 1; omega
  ·exact Nat.lt_succ_self _
  ·have:=hne k3
   show (((w.heap.put w.next _).put B none).put (w.next + 1) _).get x=_
   rw [get_put,if_neg (by omega),get_put,if_neg (by omega),get_put,if_neg (by omega)]
  ·show w.next≤w.next + 1 + 1; omega
section
variable {P:Program}
theorem append_lit {st e:TypeId} {sz:Nat} (h0:isList P st=true) (h1:elemA P st=some e) (h2:szOf P e=some sz) (h3:smallT P e=true) {w:AW} {B m:Nat} {new:List Value} {x:Value} (h4:lenA x=some m) (h5:srcCells w sz x=some new) (hl:new.length=m * sz) (hm:0 < m) (hnm:m≤100000) :
  append1 P w [st,st] [.slice (some ⟨B,0,some 2⟩) 0 0,x]=.val (.slice (some ⟨w.next,0,none⟩) m m) ⟨w.heap.put w.next (some (.cells new e false)),w.next + 1,w.lim⟩:=by
 rw [append_eq h0 h1 h2 h3,h4,h5]
 have e1:Nat.ble (0 + m) 1000000=true:=Nat.ble_eq_true_of_le (by omega)
 have e2:Nat.beq (lenL new 0) (m * sz)=true:=by rw [lenL0,hl]; exact Nat.beq_refl _
 have e3:Nat.beq m 0=false:=by rw [← Bool.not_eq_true]; intro h; have:=Nat.eq_of_beq_eq_true h; omega
 have e4:Nat.ble (0 + m) 0=false:=by rw [← Bool.not_eq_true]; intro h; have:=Nat.le_of_ble_eq_true h; omega
 have e5:srcCells w sz (.slice (some ⟨B,0,some 2⟩) 0 0)=some []:=by
  show (bif Nat.beq (0 * sz) 0 then some [] else rd w B 0 (0 * sz))=_
  rw [Nat.zero_mul]; rfl
 have e6:isExact (some 2)=true:=rfl
 simp only [e1,e2,Bool.and_self,cond_true,appendB,e3,cond_false,e4,e5,e6,appendCopy]
 have e7:Nat.beq (lenL ([]:List Value) 0) 0=true:=rfl
 simp [e7,newR,AW.add,rowV,appL_eq]
end
end Go.Sh
namespace Go.Sh
open Go
section
variable {P:Program}
theorem append_copy {st e:TypeId} {sz:Nat} (h0:isList P st=true) (h1:elemA P st=some e) (h2:szOf P e=some sz) (h3:smallT P e=true) {w:AW} {B n m:Nat} {c new:List Value} {x:Value} (h4:lenA x=some m) (h5:srcCells w sz x=some new) (hl:new.length=m * sz) (hm:0 < m) (hnm:n + m≤100000)
  (hg:srcCells w sz (.slice (some ⟨B,0,some 2⟩) n n)=some c) (hc:c.length=n * sz) :
  append1 P w [st,st] [.slice (some ⟨B,0,some 2⟩) n n,x]=.val (.slice (some ⟨w.next,0,none⟩) (n + m) (n + m)) ⟨w.heap.put w.next (some (.cells (c++new) e false)),w.next + 1,w.lim⟩:=by
 rw [append_eq h0 h1 h2 h3,h4,h5]
 have e1:Nat.ble (n + m) 1000000=true:=Nat.ble_eq_true_of_le (by omega)
 have e2:Nat.beq (lenL new 0) (m * sz)=true:=by rw [lenL0,hl]; exact Nat.beq_refl _
 have e3:Nat.beq m 0=false:=by rw [← Bool.not_eq_true]; intro h; have:=Nat.eq_of_beq_eq_true h; omega
 have e4:Nat.ble (n + m) n=false:=by rw [← Bool.not_eq_true]; intro h; have:=Nat.le_of_ble_eq_true h; omega
 have e6:isExact (some 2)=true:=rfl
 simp only [e1,e2,Bool.and_self,cond_true,appendB,e3,cond_false,e4,hg,e6,appendCopy]
 have e7:Nat.beq (lenL c 0) (n * sz)=true:=by rw [lenL0,hc]; exact Nat.beq_refl _
 simp [e7,newR,AW.add,rowV,appL_eq]
end
variable {α:Type}
def LitQ (f:α→List Value) (e:TypeId) (n0:Nat) (w:AW) (v:Value) (acc:List α) (B:Nat):Prop :=
 acc ≠ []∧w.heap.get B=some (.cells (acc.flatMap f) e false)∧B < w.next∧(v=.slice (some ⟨B,0,some 2⟩) acc.length acc.length∨(v=.slice (some ⟨B,0,none⟩) acc.length acc.length∧n0 < B))
theorem LitQ.keep {f:α→List Value} {e:TypeId} {n0:Nat} {w w':AW} {v:Value} {acc:List α} {B:Nat} (h:LitQ f e n0 w v acc B) (k:w'.heap.get B=w.heap.get B) (hn:w.next≤w'.next):LitQ f e n0 w' v acc B:=by
 obtain ⟨h1,h2,h3,h4⟩:=h
 exact ⟨h1,by rw [k]; exact h2,by omega,h4⟩
theorem LitQ.rows {f:α→List Value} {e:TypeId} {n0:Nat} {w:AW} {v:Value} {acc:List α} {B:Nat} (h:LitQ f e n0 w v acc B):RowsV f w v acc:=by
 obtain ⟨h1,h2,h3,h4⟩:=h
 rcases h4 with rfl | ⟨rfl,_⟩
 ·exact .inr ⟨B,0,_,_,rfl,⟨[],[],e,false,by simpa using h2,rfl⟩,h3⟩
 ·exact .inr ⟨B,0,_,_,rfl,⟨[],[],e,false,by simpa using h2,rfl⟩,h3⟩
theorem LitQ.ok {f:α→List Value} {e:TypeId} {n0:Nat} {w:AW} {v:Value} {acc:List α} {B:Nat} (h:LitQ f e n0 w v acc B):notJunk v=some v:=by
 obtain ⟨_,_,_,rfl | ⟨rfl,_⟩⟩:=h <;> rfl
theorem LitQ.slice {f:α→List Value} {e:TypeId} {n0:Nat} {w:AW} {v:Value} {acc:List α} {B:Nat} (h:LitQ f e n0 w v acc B):∃ sq,v=.slice (some ⟨B,0,sq⟩) acc.length acc.length:=by
 obtain ⟨_,_,_,rfl | ⟨rfl,_⟩⟩:=h <;> exact ⟨_,rfl⟩
theorem LitQ.push2 {P:Program} {st e:TypeId} {sz:Nat} {f:α→List Value} (h0:isList P st=true) (h1:elemA P st=some e) (h2:szOf P e=some sz) (h3:smallT P e=true) (hf:∀ a,(f a).length=sz) (hs:∀ a,singles (f a)=true) (hz:0 < sz)
  {n0:Nat} {w:AW} {v:Value} {acc:List α} {B:Nat} (h:LitQ f e n0 w v acc B) (hl:w.lim≤n0) (hn:n0 < w.next) (hlen:acc.length≤90000) (y:α) :
  ∃ v' w',append1 P ⟨w.heap.put w.next (some (.cells (f y) e false)),w.next + 1,w.lim⟩ [st,st] [v,.slice (some ⟨w.next,0,some 2⟩) 1 1]=.val v' w'∧(∃ B',w.next≤B'∧LitQ f e n0 w' v' (acc++[y]) B')∧(∀ x,x < w.next→(n0 < B→x ≠ B)→w'.heap.get x=w.heap.get x)∧w.next≤w'.next∧w'.lim=w.lim:=by
 have hsrc:srcCells ⟨w.heap.put w.next (some (.cells (f y) e false)),w.next + 1,w.lim⟩ sz (.slice (some ⟨w.next,0,some 2⟩) 1 1)=some (f y):=src_row (e':=e) (ro:=false) (k:=1) (by simp) (by simp [hf]) (by decide) hz
 obtain ⟨k1,k2,k3,k4⟩:=h
 have hp:0 < acc.length:=List.length_pos_iff.2 k1
 have hB':(w.heap.put w.next (some (.cells (f y) e false))).get B=some (.cells (acc.flatMap f) e false):=by rw [get_put,if_neg (by omega)]; exact k2
 rcases k4 with rfl | ⟨rfl,k4⟩
 ·have hg:srcCells ⟨w.heap.put w.next (some (.cells (f y) e false)),w.next + 1,w.lim⟩ sz (.slice (some ⟨B,0,some 2⟩) acc.length acc.length)=some (acc.flatMap f):=src_row (e':=e) (ro:=false) (k:=acc.length) hB' (flat_length hf acc) hp hz
  refine ⟨_,_,append_copy h0 h1 h2 h3 (n:=acc.length) (m:=1) (c:=acc.flatMap f) rfl hsrc (by simp [hf]) (by decide) (by omega) hg (flat_length hf acc),⟨w.next + 1,Nat.le_succ _,by simp,?_,Nat.lt_succ_self _,.inr ⟨by simp,by show n0 < w.next + 1; omega⟩⟩,fun x hx _=>?_,?_,rfl⟩
  ·simp
  ·show ((w.heap.put w.next _).put (w.next + 1) _).get x=_
   rw [get_put,if_neg (by omega),get_put,if_neg (by omega)]
  ·show w.next≤w.next + 1 + 1; omega
 ·refine ⟨_,_,append_full h0 h1 h2 h3 (n:=acc.length) (m:=1) (c:=acc.flatMap f) rfl hsrc (by simp [hf]) (hs y) (by decide) (by omega) hB' (flat_length hf acc) (by show w.lim≤B; omega),⟨w.next + 1,Nat.le_succ _,by simp,?_,Nat.lt_succ_self _,.inr ⟨by simp,by show n0 < w.next + 1; omega⟩⟩,fun x hx hne=>?_,?_,rfl⟩
  ·simp
  ·have:=hne k4
   show (((w.heap.put w.next _).put B none).put (w.next + 1) _).get x=_
   rw [get_put,if_neg (by omega),get_put,if_neg (by omega),get_put,if_neg (by omega)]
  ·show w.next≤w.next + 1 + 1; omega
end Go.Sh
namespace Go.Proofs.YthihnhgdbfcabaaGreatDoor.walk
open Go Go.Sh
set_option maxRecDepth 100000
def bV (c:UInt8):Value:=.int .u8 (c.toNat:Int)
def sgC:List Value:=sgL.map bV
def SgAt (w:AW):Prop:=∃ ty ro,w.heap.get 0=some (.cells sgC ty ro)
theorem SgAt.up {w w':AW} (h:SgAt w) (u:Up w w') (h0:0 < w.next):SgAt w':=by
 obtain ⟨ty,ro,g⟩:=h
 exact ⟨ty,ro,by rw [u.at h0]; exact g⟩
theorem byte_eq {c d:UInt8}:((c.toNat:Int)=(d.toNat:Int)) ↔ c=d:=⟨fun h=>UInt8.toNat_inj.1 (by omega),fun h=>by rw [h]⟩
theorem run58 {ov:Ov} (ho:∀ args w,ov 58 args w=none) (m:Nat) (n a b:Int) (w:AW):(run Tryz.prog ov (m + 1)).call 58 [.int .i64 n,.int .i64 a,.int .i64 b] w .none=.ok (.ret (.bool (decide (a≤n) && decide (n≤b)))) w .none:=by
 have key:∃ v w',(run Tryz.prog ov (m + 1)).call 58 [.int .i64 n,.int .i64 a,.int .i64 b] w .none=.ok (.ret v) w' .none∧v=.bool (decide (a≤n) && decide (n≤b))∧w'=w:=by
  refine call_wp text58 (by simp) (ho _ _) ?_
  by_cases h1:a≤n <;> simp [mc58,h1,tupV]
 obtain ⟨v,w',h,rfl,rfl⟩:=key
 exact h
end Go.Proofs.YthihnhgdbfcabaaGreatDoor.walk
namespace Go.Sh
open Go
variable {α:Type}
theorem AccR.push3 {P:Program} {st e:TypeId} {sz:Nat} {f:α→List Value} (h0:isList P st=true) (h1:elemA P st=some e) (h2:szOf P e=some sz) (h3:smallT P e=true) (hf:∀ a,(f a).length=sz) (hs:∀ a,singles (f a)=true) (hz:0 < sz)
  {n0:Nat} {w:AW} {v:Value} {acc:List α} (h:AccR f e n0 w v acc) (hl:w.lim≤n0) (hn:n0≤w.next) (hlen:acc.length≤90000) (y:α) :
  ∃ v' w',append1 P ⟨w.heap.put w.next (some (.cells (f y) e false)),w.next + 1,w.lim⟩ [st,st] [v,.slice (some ⟨w.next,0,some 2⟩) 1 1]=.val v' w'∧AccR f e n0 w' v' (acc++[y])∧(∀ x,x < n0→w'.heap.get x=w.heap.get x)∧w.next≤w'.next∧w'.lim=w.lim:=by
 have hsrc:srcCells ⟨w.heap.put w.next (some (.cells (f y) e false)),w.next + 1,w.lim⟩ sz (.slice (some ⟨w.next,0,some 2⟩) 1 1)=some (f y):=src_row (e':=e) (ro:=false) (k:=1) (by simp) (by simp [hf]) (by decide) hz
 rcases h with ⟨rfl,rfl⟩ | ⟨B,rfl,hB,k1,k2,_⟩
 ·refine ⟨_,_,append_nil h0 h1 h2 h3 (m:=1) rfl hsrc (by simp [hf]) (by decide) (by decide),.inr ⟨_,rfl,?_,?_,?_,by simp⟩,fun x hx=>?_,?_,rfl⟩
  ·simp
  ·show n0 < w.next + 1; omega
  ·exact Nat.lt_succ_self _
  ·show ((w.heap.put w.next _).put (w.next + 1) _).get x=_
   rw [get_put,if_neg (by omega),get_put,if_neg (by omega)]
  ·show w.next≤w.next + 1 + 1; omega
 ·have hB':(w.heap.put w.next (some (.cells (f y) e false))).get B=some (.cells (acc.flatMap f) e false):=by rw [get_put,if_neg (by omega)]; exact hB
  refine ⟨_,_,append_full h0 h1 h2 h3 (n:=acc.length) (m:=1) (c:=acc.flatMap f) rfl hsrc (by simp [hf]) (hs y) (by decide) (by omega) hB' (flat_length hf acc) (by show w.lim≤B; omega),.inr ⟨w.next + 1,?_,?_,?_,?_,by simp⟩,fun x hx=>?_,?_,rfl⟩
  ·simp
  ·show (((w.heap.put w.next _).put B none).put (w.next + 1) _).get (w.next + 1)=_
   rw [get_put,if_pos rfl]; simp
  ·omega
  ·exact Nat.lt_succ_self _
  ·show (((w.heap.put w.next _).put B none).put (w.next + 1) _).get x=_
   rw [get_put,if_neg (by omega),get_put,if_neg (by omega),get_put,if_neg (by omega)]
  ·show w.next≤w.next + 1 + 1; omega
end Go.Sh
namespace Go.Proofs.YthihnhgdbfcabaaGreatDoor.walk
open Go Go.Sh
set_option maxRecDepth 100000
theorem list33:isList Tryz.prog 33=true:=by kernel_rfl
theorem elem33:elemA Tryz.prog 33=some 3:=by kernel_rfl
theorem size3:szOf Tryz.prog 3=some 1:=by kernel_rfl
theorem small3:smallT Tryz.prog 3=true:=by kernel_rfl
def intC (z:Int):List Value:=[.int .i64 z]
theorem intC_length (z:Int):(intC z).length=1:=rfl
theorem intC_single (z:Int):singles (intC z)=true:=rfl
theorem len33V {w w':AW} {v:Value} {l:List Int} (h:RowsV intC w v l):lenB Tryz.prog w' 33 v=.val (.int .i64 (l.length:Nat)) w':=by
 obtain ⟨a,c,rfl⟩:=h.len; simp
theorem row_int {H:T AObj} {n b off:Nat} {l:List Int} (h:RowsA intC H n b off l) {i:Nat} {z:Int} (hz:l[i]?=some z):rd1O (H.get b) (off + i)=some (.int .i64 z):=by
 have:=h.rd1 (m:=1) (j:=0) (x:=.int .i64 z) intC_length hz rfl
 simpa using this
def S10:PSpec where
 R args w v:=∃ s:ByteArray,args=[.string s]∧(SgAt w∧0 < w.next)∧v=.bool (codeB s.data.toList)
 uniq:=by rintro _ _ _ _ ⟨s,rfl,_,rfl⟩ ⟨_,h,_,rfl⟩; cases h; rfl
 shut:=by rintro _ _ _ ⟨s,h1,h2,h3⟩; exact ⟨s,h1,h2,h3⟩
def S62:PSpec where
 R args w v:=∃ (L:List UInt8) (i:Nat) (c:UInt8),args=[.string ⟨⟨L⟩⟩,.int .i64 (i:Int),bV c]∧i < L.length∧v=.string ⟨⟨L.set i c⟩⟩
 uniq:=by
  rintro _ _ _ _ ⟨L,i,c,rfl,_,rfl⟩ ⟨L',i',c',h,_,rfl⟩
  simp only [List.cons.injEq,Value.string.injEq,ByteArray.mk.injEq,Array.mk.injEq,Value.int.injEq,bV,and_true,true_and] at h
  obtain ⟨rfl,h2,h3⟩:=h
  have:i=i':=by omega
  have:c=c':=byte_eq.1 h3
  subst i' c'; rfl
 shut h:=h
def S63:PSpec where
 R args w v:=∃ (L:List UInt8) (i:Nat) (a b:UInt8),args=[.string ⟨⟨L⟩⟩,.int .i64 (i:Int)]∧L[i]?=some a∧L[i + 1]?=some b∧i < 1000∧v=.string ⟨⟨(L.set i b).set (i + 1) a⟩⟩
 uniq:=by
  rintro _ _ _ _ ⟨L,i,a,b,rfl,h1,h2,_,rfl⟩ ⟨L',i',a',b',h,k1,k2,_,rfl⟩
  simp only [List.cons.injEq,Value.string.injEq,ByteArray.mk.injEq,Array.mk.injEq,Value.int.injEq,and_true,true_and] at h
  obtain ⟨rfl,h3⟩:=h
  have:i=i':=by omega
  subst i'
  rw [h1] at k1
  rw [h2] at k2
  cases k1; cases k2; rfl
 shut h:=h
def S21:PSpec where
 R args w v:=∃ (L:List UInt8) (i k:Nat) (a b:UInt8),args=[.string ⟨⟨L⟩⟩,.int .i64 (i:Int),.int .i64 (k:Int)]∧L[i]?=some a∧L[k]?=some b∧v=.string ⟨⟨(L.set i b).set k a⟩⟩
 uniq:=by
  rintro _ _ _ _ ⟨L,i,k,a,b,rfl,h1,h2,rfl⟩ ⟨L',i',k',a',b',h,k1,k2,rfl⟩
  simp only [List.cons.injEq,Value.string.injEq,ByteArray.mk.injEq,Array.mk.injEq,Value.int.injEq,and_true,true_and] at h
  obtain ⟨rfl,h3,h4⟩:=h
  have:i=i':=by omega
  subst i'
  have:k=k':=by omega
  subst k'
  rw [h1] at k1
  rw [h2] at k2
  cases k1; cases k2; rfl
 shut h:=h
structure InF (J:List (List UInt8)→AW→Prop) (M:Nat→Prop) (w0:AW) (st:List (List UInt8)) (w:AW):Prop where
 j:J st w
 keep:∀ x,x < w0.next→¬ M x→w.heap.get x=w0.heap.get x
 next:w0.next≤w.next
 lim:w.lim=w0.lim
section
variable {ov:Ov} {J:List (List UInt8)→AW→Prop} {M:Nat→Prop} {w0:AW} {L n1:Nat} {s:List UInt8}
end
end Go.Proofs.YthihnhgdbfcabaaGreatDoor.walk
namespace Go.Sh
open Go
@[simp] theorem op_nilCheck {P:Program} {t:Tm} {w:AW} (ty:TypeId) (x:Operand):(opS P ty (.nilCheck x)).val t w=nilCheckA P w ((evS x).val t):=rfl
@[simp] theorem nilCheck_ptr {P:Program} {w:AW} (a:Addr):nilCheckA P w (.pointer (some a))=.val (.pointer (some a)) w:=rfl
section
variable {α:Type}
structure InS (C:α→List Value) (e:TypeId) (w0:AW) (B:Nat) (L:List α) (w:AW):Prop where
 row:w.heap.get B=some (.cells (L.flatMap C) e false)
 old:∀ x,x < w0.next→x ≠ B→w.heap.get x=w0.heap.get x
 next:w0.next≤w.next
 lim:w.lim=w0.lim
theorem InS.refl {C:α→List Value} {e:TypeId} {w:AW} {B:Nat} {L:List α} (h:w.heap.get B=some (.cells (L.flatMap C) e false)):InS C e w B L w:=⟨h,fun _ _ _=>rfl,Nat.le_refl _,rfl⟩
theorem InS.trans {C:α→List Value} {e:TypeId} {w0 w w':AW} {B:Nat} {L L':List α} (h:InS C e w0 B L w) (h':InS C e w B L' w'):InS C e w0 B L' w' :=
 ⟨h'.row,fun x hx hb=>(h'.old x (by have:=h.next; omega) hb).trans (h.old x hx hb),Nat.le_trans h.next h'.next,h'.lim.trans h.lim⟩
structure SortT (P:Program) (st e:TypeId) (sz:Nat) (C:α→List Value) (V:α→Value):Prop where
 ix:∀ (w:AW) (B n c k:Nat),k < n→indexAddrA P w st (.slice (some ⟨B,0,none⟩) n c) (.int .i64 (k:Int))=.val (.pointer (some ⟨B,k * sz,none⟩)) w
 ld:∀ (w:AW) (B k:Nat) (L:List α) (x:α),w.heap.get B=some (.cells (L.flatMap C) e false)→L[k]?=some x→loadA P w e (.pointer (some ⟨B,k * sz,none⟩))=.val (V x) w
 st:∀ (w:AW) (B k:Nat) (L:List α) (x:α),w.heap.get B=some (.cells (L.flatMap C) e false)→k < L.length→w.lim≤B→storeA P w e (.pointer (some ⟨B,k * sz,none⟩)) (V x)=.val undef ⟨w.heap.put B (some (.cells ((L.set k x).flatMap C) e false)),w.next,w.lim⟩
theorem SortT.agg {P:Program} {st e:TypeId} {sz:Nat} {C:α→List Value} (h1:P.underlying st=some (.slice e)) (h2:szOf P e=some sz) (h3:aggOf P e=some true) (hC:∀ a,(C a).length=sz) (hs:∀ a,singles (C a)=true):SortT P st e sz C (fun x=>.agg ⟨C x⟩):=by
 refine ⟨fun w B n c k hk=>?_,fun w B k L x hr hx=>?_,fun w B k L x hr hk hl=>?_⟩
 ·rw [indexAddr_slice h1 h2 ⟨B,0,none⟩ n c .i64 k hk]; simp
 ·rw [load_agg h3 h2]
  have:=flat_at hC L k x [] hx
  rw [List.append_nil] at this
  rw [rd_eq,hr,rdO_cells,if_pos this.2,this.1]
  rfl
 ·rw [store_eq h2 _ _ (by simp [hC])]
  have hf:=flat_length hC L
  simp only [wr_eq,cellsOf_agg,hr]
  rw [wrO_cells (hs x) hl (by rw [hC,hf]; have:=Nat.mul_le_mul_right sz (show k + 1≤L.length from hk); rw [Nat.add_mul] at this; omega),hC,flat_set hC L k x hk]
  rfl
theorem SortT.one {P:Program} {st e:TypeId} {V:α→Value} (h1:P.underlying st=some (.slice e)) (h2:szOf P e=some 1) (h3:aggOf P e=some false) (hs:∀ a,cellsOf (V a)=[V a]∧singles [V a]=true):SortT P st e 1 (fun x=>[V x]) V:=by
 have hC:∀ a,((fun x=>[V x]) a).length=1:=fun a=>rfl
 refine ⟨fun w B n c k hk=>?_,fun w B k L x hr hx=>?_,fun w B k L x hr hk hl=>?_⟩
 ·rw [indexAddr_slice h1 h2 ⟨B,0,none⟩ n c .i64 k hk]; simp
 ·rw [load_one h3]
  have:=(flat_at hC L k x [] hx).1
  rw [List.append_nil] at this
  have h0:(L.flatMap fun x=>[V x])[k * 1]?=some (V x):=by
   have e:((List.drop (k * 1) (L.flatMap fun x=>[V x])).take 1)[0]?=some (V x):=by rw [this]; rfl
   rw [List.getElem?_take_of_lt (by omega),List.getElem?_drop] at e
   exact e
  rw [rd1_eq,hr,rd1O_cells,h0]
  rfl
 ·rw [store_eq h2 _ _ (by rw [(hs x).1]; rfl)]
  have hf:=flat_length hC L
  simp only [wr_eq,(hs x).1,hr]
  rw [wrO_cells (hs x).2 hl (by simp only [List.length_singleton]; rw [hf]; omega)]
  have:=flat_set hC L k x hk
  simp only [List.length_singleton]
  rw [this]
  rfl
theorem InS.swap {P:Program} {st e:TypeId} {sz:Nat} {C:α→List Value} {V:α→Value} (T:SortT P st e sz C V) {w0 w:AW} {B:Nat} {L:List α} (h:InS C e w0 B L w) (hl:w0.lim≤B) {i j:Nat} {x y:α} (hx:L[i]?=some x) (hy:L[j]?=some y) :
  ∃ w1 w2,storeA P w e (.pointer (some ⟨B,i * sz,none⟩)) (V y)=.val undef w1∧storeA P w1 e (.pointer (some ⟨B,j * sz,none⟩)) (V x)=.val undef w2∧InS C e w0 B (swp L i j x y) w2:=by
 have hlim:=h.lim
 refine ⟨_,_,T.st w B i L y h.row (at_lt hx) (by omega),T.st _ B j (L.set i y) x (by simp) (by rw [List.length_set]; exact at_lt hy) (by show w.lim≤B; omega),⟨?_,fun z hz hb=>?_,h.next,hlim⟩⟩
 ·simp [swp]
 ·simp [hb]; exact h.old z hz hb
def Two (lo hi:Nat) (x:Value):Prop:=∃ p q:Nat,x=.tuple ⟨[.int .i64 (p:Int),.int .i64 (q:Int)]⟩∧lo≤p∧p < hi∧lo≤q∧q < hi
end
end Go.Sh
