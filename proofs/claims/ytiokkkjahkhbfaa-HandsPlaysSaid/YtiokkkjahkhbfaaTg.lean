/- Part of a proof: see the text with the theorem. -/
import Derived.Test.YtiokkkjahkhbfaaTe
import Derived.Test.YtiokkkjahkhbfaaShF
import Derived.Test.YtiokkkjahkhbfaaTa
import Derived.KernelRfl
import Derived.Test.YtiokkkjahkhbfaaProg
import Derived.Test.YtiokkkjahkhbfaaTd
import Derived.Test.YtiokkkjahkhbfaaTc
set_option linter.all false
namespace Go.Proofs.Ytiokkkjahkhbfaa.walk
open Go Go.Sh
set_option maxRecDepth 100000
theorem mixed:Try.prog.follows .mixedOrders=true:=by kernel_rfl
theorem globals0:Try.prog.globals.size=0:=by kernel_rfl
theorem no_count:NoCount Try.prog:=NoCount.of (by kernel_rfl)
theorem ovP_none {f g:Nat} {F:PureF} {rest:Ov} (hne:g ≠ f) (h:∀ args w,rest g args w=none) (args:List Value) (w:AW):ovP f F rest g args w=none:=by simp [ovP,hne,h]
theorem no_none (g:Nat) (args:List Value) (w:AW):noOv g args w=none:=rfl
theorem OvOk.sub {P:Program} {ov ov':Ov} (h:OvOk P ov) (k:∀ f args w r,ov' f args w=some r→ov f args w=some r):OvOk P ov':=fun f φ A w args args' cs o A' x' h1 h2 h3=>h f φ A w args args' cs o A' x' h1 h2 (k _ _ _ _ h3)
noncomputable def k81:Ov:=ovP 81 S81.F noOv
theorem okk81:OvOk Try.prog k81:=S81.ok no_count mixed ov_none fun args w v hl h=>by
 obtain ⟨n,x,L,rfl,hx,hL,rfl⟩:=h
 obtain ⟨_,w',h1,rfl⟩:=run81 (ov:=noOv) (no_none _) n x L hL w hx
 exact ⟨rfl,2,_,w',_,h1,rfl⟩
theorem pure_okB:OvOk Try.prog pureOv:=OvOk.sub okk81 fun f args w r h=>by
 unfold pureOv ovP at h
 by_cases e:f=81
 ·subst e
  rw [if_pos rfl] at h
  cases hF:F81c args w with
  | some v =>
   rw [hF] at h
   cases h
   exact HasP.here args w v (S81.F_eq (F81c_some hF))
  | none =>
   rw [hF] at h
   simp [noOv] at h
 ·rw [if_neg e] at h
  simp [noOv] at h
theorem al135 (w:AW):allocA Try.prog w 135=.val (.pointer (some ⟨w.next,0,none⟩)) ⟨w.heap.put w.next (some (.cells [.bool false,.bool false,.bool false,.bool false,.bool false,.bool false,.bool false,.bool false,.bool false,.bool false,.bool false,.bool false,.bool false,.bool false,.bool false,.bool false,.bool false,.bool false,.bool false,.bool false,.bool false,.bool false,.bool false,.bool false,.bool false,.bool false,.bool false,.bool false,.bool false,.bool false,.bool false,.bool false,.bool false,.bool false,.bool false,.bool false,.bool false,.bool false,.bool false,.bool false,.bool false,.bool false,.bool false,.bool false,.bool false,.bool false,.bool false,.bool false,.bool false,.bool false,.bool false,.bool false,.bool false,.bool false,.bool false,.bool false,.bool false,.bool false,.bool false,.bool false,.bool false,.bool false,.bool false,.bool false,.bool false,.bool false,.bool false,.bool false,.bool false,.bool false,.bool false,.bool false,.bool false,.bool false,.bool false,.bool false,.bool false,.bool false,.bool false,.bool false,.bool false,.bool false,.bool false,.bool false,.bool false,.bool false,.bool false,.bool false,.bool false,.bool false,.bool false,.bool false,.bool false,.bool false,.bool false,.bool false,.bool false,.bool false,.bool false,.bool false,.bool false,.bool false,.bool false,.bool false,.bool false,.bool false,.bool false,.bool false,.bool false,.bool false,.bool false,.bool false,.bool false,.bool false,.bool false,.bool false,.bool false,.bool false,.bool false,.bool false,.bool false,.bool false,.bool false,.bool false,.bool false,.bool false,.bool false,.bool false,.bool false,.bool false,.bool false,.bool false,.bool false,.bool false,.bool false,.bool false,.bool false,.bool false,.bool false,.bool false,.bool false,.bool false,.bool false,.bool false,.bool false,.bool false,.bool false,.bool false,.bool false,.bool false,.bool false,.bool false,.bool false,.bool false,.bool false,.bool false,.bool false,.bool false,.bool false,.bool false,.bool false,.bool false,.bool false,.bool false,.bool false,.bool false,.bool false,.bool false,.bool false,.bool false,.bool false,.bool false,.bool false,.bool false,.bool false,.bool false,.bool false,.bool false,.bool false,.bool false,.bool false,.bool false,.bool false,.bool false,.bool false,.bool false,.bool false,.bool false,.bool false,.bool false,.bool false,.bool false,.bool false,.bool false,.bool false,.bool false,.bool false,.bool false,.bool false,.bool false,.bool false,.bool false,.bool false,.bool false,.bool false,.bool false,.bool false,.bool false,.bool false,.bool false,.bool false,.bool false,.bool false,.bool false,.bool false,.bool false,.bool false,.bool false,.bool false,.bool false,.bool false,.bool false,.bool false,.bool false,.bool false,.bool false,.bool false,.bool false,.bool false,.bool false,.bool false,.bool false,.bool false,.bool false,.bool false,.bool false,.bool false,.bool false,.bool false,.bool false,.bool false,.bool false,.bool false,.bool false,.bool false,.bool false,.bool false,.bool false,.bool false,.bool false,.bool false,.bool false,.bool false,.bool false,.bool false,.bool false,.bool false,.bool false,.bool false,.bool false,.bool false,.bool false,.bool false,.bool false,.bool false,.bool false,.bool false,.bool false,.bool false,.bool false,.bool false,.bool false,.bool false,.bool false,.bool false,.bool false,.bool false,.bool false,.bool false,.bool false,.bool false,.bool false,.bool false,.bool false,.bool false,.bool false,.bool false,.bool false,.bool false,.bool false,.bool false,.bool false,.bool false,.bool false,.bool false,.bool false,.bool false,.bool false,.bool false,.bool false,.bool false,.bool false,.bool false,.bool false,.bool false,.bool false,.bool false,.bool false,.bool false,.bool false,.bool false,.bool false,.bool false,.bool false,.bool false,.bool false,.bool false,.bool false,.bool false,.bool false,.bool false,.bool false,.bool false,.bool false,.bool false,.bool false,.bool false,.bool false,.bool false,.bool false,.bool false,.bool false,.bool false,.bool false,.bool false,.bool false,.bool false,.bool false,.bool false,.bool false,.bool false,.bool false,.bool false,.bool false,.bool false,.bool false,.bool false,.bool false,.bool false,.bool false,.bool false,.bool false,.bool false,.bool false,.bool false,.bool false] 135 false)),w.next + 1,w.lim⟩:=alloc_eq (z:=.agg ⟨[.bool false,.bool false,.bool false,.bool false,.bool false,.bool false,.bool false,.bool false,.bool false,.bool false,.bool false,.bool false,.bool false,.bool false,.bool false,.bool false,.bool false,.bool false,.bool false,.bool false,.bool false,.bool false,.bool false,.bool false,.bool false,.bool false,.bool false,.bool false,.bool false,.bool false,.bool false,.bool false,.bool false,.bool false,.bool false,.bool false,.bool false,.bool false,.bool false,.bool false,.bool false,.bool false,.bool false,.bool false,.bool false,.bool false,.bool false,.bool false,.bool false,.bool false,.bool false,.bool false,.bool false,.bool false,.bool false,.bool false,.bool false,.bool false,.bool false,.bool false,.bool false,.bool false,.bool false,.bool false,.bool false,.bool false,.bool false,.bool false,.bool false,.bool false,.bool false,.bool false,.bool false,.bool false,.bool false,.bool false,.bool false,.bool false,.bool false,.bool false,.bool false,.bool false,.bool false,.bool false,.bool false,.bool false,.bool false,.bool false,.bool false,.bool false,.bool false,.bool false,.bool false,.bool false,.bool false,.bool false,.bool false,.bool false,.bool false,.bool false,.bool false,.bool false,.bool false,.bool false,.bool false,.bool false,.bool false,.bool false,.bool false,.bool false,.bool false,.bool false,.bool false,.bool false,.bool false,.bool false,.bool false,.bool false,.bool false,.bool false,.bool false,.bool false,.bool false,.bool false,.bool false,.bool false,.bool false,.bool false,.bool false,.bool false,.bool false,.bool false,.bool false,.bool false,.bool false,.bool false,.bool false,.bool false,.bool false,.bool false,.bool false,.bool false,.bool false,.bool false,.bool false,.bool false,.bool false,.bool false,.bool false,.bool false,.bool false,.bool false,.bool false,.bool false,.bool false,.bool false,.bool false,.bool false,.bool false,.bool false,.bool false,.bool false,.bool false,.bool false,.bool false,.bool false,.bool false,.bool false,.bool false,.bool false,.bool false,.bool false,.bool false,.bool false,.bool false,.bool false,.bool false,.bool false,.bool false,.bool false,.bool false,.bool false,.bool false,.bool false,.bool false,.bool false,.bool false,.bool false,.bool false,.bool false,.bool false,.bool false,.bool false,.bool false,.bool false,.bool false,.bool false,.bool false,.bool false,.bool false,.bool false,.bool false,.bool false,.bool false,.bool false,.bool false,.bool false,.bool false,.bool false,.bool false,.bool false,.bool false,.bool false,.bool false,.bool false,.bool false,.bool false,.bool false,.bool false,.bool false,.bool false,.bool false,.bool false,.bool false,.bool false,.bool false,.bool false,.bool false,.bool false,.bool false,.bool false,.bool false,.bool false,.bool false,.bool false,.bool false,.bool false,.bool false,.bool false,.bool false,.bool false,.bool false,.bool false,.bool false,.bool false,.bool false,.bool false,.bool false,.bool false,.bool false,.bool false,.bool false,.bool false,.bool false,.bool false,.bool false,.bool false,.bool false,.bool false,.bool false,.bool false,.bool false,.bool false,.bool false,.bool false,.bool false,.bool false,.bool false,.bool false,.bool false,.bool false,.bool false,.bool false,.bool false,.bool false,.bool false,.bool false,.bool false,.bool false,.bool false,.bool false,.bool false,.bool false,.bool false,.bool false,.bool false,.bool false,.bool false,.bool false,.bool false,.bool false,.bool false,.bool false,.bool false,.bool false,.bool false,.bool false,.bool false,.bool false,.bool false,.bool false,.bool false,.bool false,.bool false,.bool false,.bool false,.bool false,.bool false,.bool false,.bool false,.bool false,.bool false,.bool false,.bool false,.bool false,.bool false,.bool false,.bool false,.bool false,.bool false,.bool false,.bool false,.bool false,.bool false,.bool false,.bool false,.bool false,.bool false,.bool false,.bool false,.bool false,.bool false,.bool false,.bool false,.bool false,.bool false,.bool false,.bool false,.bool false,.bool false,.bool false,.bool false,.bool false,.bool false,.bool false,.bool false,.bool false,.bool false,.bool false,.bool false,.bool false,.bool false,.bool false,.bool false,.bool false,.bool false]⟩) (by kernel_rfl)
theorem bd135_0 (w:AW) (x0:Bool):buildA Try.prog w 135 [(0,.bool x0)]=.val (.agg ⟨[.bool x0,.bool false,.bool false,.bool false,.bool false,.bool false,.bool false,.bool false,.bool false,.bool false,.bool false,.bool false,.bool false,.bool false,.bool false,.bool false,.bool false,.bool false,.bool false,.bool false,.bool false,.bool false,.bool false,.bool false,.bool false,.bool false,.bool false,.bool false,.bool false,.bool false,.bool false,.bool false,.bool false,.bool false,.bool false,.bool false,.bool false,.bool false,.bool false,.bool false,.bool false,.bool false,.bool false,.bool false,.bool false,.bool false,.bool false,.bool false,.bool false,.bool false,.bool false,.bool false,.bool false,.bool false,.bool false,.bool false,.bool false,.bool false,.bool false,.bool false,.bool false,.bool false,.bool false,.bool false,.bool false,.bool false,.bool false,.bool false,.bool false,.bool false,.bool false,.bool false,.bool false,.bool false,.bool false,.bool false,.bool false,.bool false,.bool false,.bool false,.bool false,.bool false,.bool false,.bool false,.bool false,.bool false,.bool false,.bool false,.bool false,.bool false,.bool false,.bool false,.bool false,.bool false,.bool false,.bool false,.bool false,.bool false,.bool false,.bool false,.bool false,.bool false,.bool false,.bool false,.bool false,.bool false,.bool false,.bool false,.bool false,.bool false,.bool false,.bool false,.bool false,.bool false,.bool false,.bool false,.bool false,.bool false,.bool false,.bool false,.bool false,.bool false,.bool false,.bool false,.bool false,.bool false,.bool false,.bool false,.bool false,.bool false,.bool false,.bool false,.bool false,.bool false,.bool false,.bool false,.bool false,.bool false,.bool false,.bool false,.bool false,.bool false,.bool false,.bool false,.bool false,.bool false,.bool false,.bool false,.bool false,.bool false,.bool false,.bool false,.bool false,.bool false,.bool false,.bool false,.bool false,.bool false,.bool false,.bool false,.bool false,.bool false,.bool false,.bool false,.bool false,.bool false,.bool false,.bool false,.bool false,.bool false,.bool false,.bool false,.bool false,.bool false,.bool false,.bool false,.bool false,.bool false,.bool false,.bool false,.bool false,.bool false,.bool false,.bool false,.bool false,.bool false,.bool false,.bool false,.bool false,.bool false,.bool false,.bool false,.bool false,.bool false,.bool false,.bool false,.bool false,.bool false,.bool false,.bool false,.bool false,.bool false,.bool false,.bool false,.bool false,.bool false,.bool false,.bool false,.bool false,.bool false,.bool false,.bool false,.bool false,.bool false,.bool false,.bool false,.bool false,.bool false,.bool false,.bool false,.bool false,.bool false,.bool false,.bool false,.bool false,.bool false,.bool false,.bool false,.bool false,.bool false,.bool false,.bool false,.bool false,.bool false,.bool false,.bool false,.bool false,.bool false,.bool false,.bool false,.bool false,.bool false,.bool false,.bool false,.bool false,.bool false,.bool false,.bool false,.bool false,.bool false,.bool false,.bool false,.bool false,.bool false,.bool false,.bool false,.bool false,.bool false,.bool false,.bool false,.bool false,.bool false,.bool false,.bool false,.bool false,.bool false,.bool false,.bool false,.bool false,.bool false,.bool false,.bool false,.bool false,.bool false,.bool false,.bool false,.bool false,.bool false,.bool false,.bool false,.bool false,.bool false,.bool false,.bool false,.bool false,.bool false,.bool false,.bool false,.bool false,.bool false,.bool false,.bool false,.bool false,.bool false,.bool false,.bool false,.bool false,.bool false,.bool false,.bool false,.bool false,.bool false,.bool false,.bool false,.bool false,.bool false,.bool false,.bool false,.bool false,.bool false,.bool false,.bool false,.bool false,.bool false,.bool false,.bool false,.bool false,.bool false,.bool false,.bool false,.bool false,.bool false,.bool false,.bool false,.bool false,.bool false,.bool false,.bool false,.bool false,.bool false,.bool false,.bool false,.bool false,.bool false,.bool false,.bool false,.bool false,.bool false,.bool false,.bool false,.bool false,.bool false,.bool false,.bool false,.bool false,.bool false,.bool false,.bool false,.bool false,.bool false,.bool false,.bool false,.bool false,.bool false,.bool false,.bool false]⟩) w:=by kernel_rfl
@[simp] theorem st135 (w:AW) (a:Addr) (x:Value) (hx:(cellsOf x).length=356):storeA Try.prog w 135 (.pointer (some a)) x=wR (wr w a.block a.off (cellsOf x)) undef:=store_eq (by kernel_rfl) a x hx
@[simp] theorem ld135 (w:AW) (a:Addr):loadA Try.prog w 135 (.pointer (some a))=vR w (aggM (rd w a.block a.off 356)):=load_agg (by kernel_rfl) (by kernel_rfl) a
@[simp] theorem fa128_0 (w:AW) (a:Addr):fieldAddrA Try.prog w 128 0 (.pointer (some a))=.val (.pointer (some (a.add 0))) w:=by kernel_rfl
@[simp] theorem ld4 (w:AW) (a:Addr):loadA Try.prog w 4 (.pointer (some a))=vR w (rd1 w a.block a.off):=load_one (by kernel_rfl) a
@[simp] theorem fa128_1 (w:AW) (a:Addr):fieldAddrA Try.prog w 128 1 (.pointer (some a))=.val (.pointer (some (a.add 356))) w:=by kernel_rfl
@[simp] theorem ld125 (w:AW) (a:Addr):loadA Try.prog w 125 (.pointer (some a))=vR w (rd1 w a.block a.off):=load_one (by kernel_rfl) a
@[simp] theorem bd132_0_1 (w:AW) (x0:Int) (x1:Int):buildA Try.prog w 132 [(0,.int .i64 x0),(1,.int .i64 x1)]=.val (.agg ⟨[.int .i64 x0,.int .i64 x1]⟩) w:=by kernel_rfl
@[simp] theorem st4 (w:AW) (a:Addr) (x:Value) (hx:(cellsOf x).length=1):storeA Try.prog w 4 (.pointer (some a)) x=wR (wr w a.block a.off (cellsOf x)) undef:=store_eq (by kernel_rfl) a x hx
@[simp] theorem rs135 (w:AW) (a:Addr):ldA Try.prog w 135 a=aggM (rd w a.block a.off 356):=ld_agg (by kernel_rfl) (by kernel_rfl) a
noncomputable def mc94_l2:MC:=.seq (.ops [⟨false,none,some 24,0,.binOp .lss 3 (.tmp 23) (.tmp 22) 3⟩]) (.seq (.cond (.tmp 24) (.skip) (.exit 4)) (.seq (.block 5 (.seq (.ops [⟨false,none,some 25,0,.indexAddr 42 (.tmp 21) (.tmp 23)⟩,⟨false,none,some 26,3,.load 3 (.tmp 25)⟩,⟨false,none,some 7,3,.assign (.tmp 26)⟩]) (.seq (.ops [⟨false,none,some 27,3,.move (.tmp 5)⟩,⟨false,none,some 28,0,.indexAddr 135 (.tmp 4) (.tmp 27)⟩,⟨false,none,some 29,4,.load 4 (.tmp 28)⟩,⟨false,none,some 30,4,.move (.tmp 29)⟩,⟨false,some (30,true),some 31,98,.move (.tmp 0)⟩,⟨false,some (30,true),some 32,0,.nilCheck (.tmp 31)⟩,⟨false,some (30,true),some 33,0,.fieldAddr 128 (.tmp 32) 1⟩,⟨false,some (30,true),some 34,125,.load 125 (.tmp 33)⟩,⟨false,some (30,true),some 35,3,.move (.tmp 5)⟩,⟨false,some (30,true),some 36,3,.move (.tmp 7)⟩,⟨false,some (30,true),some 37,132,.build 132 #[(0,.tmp 35),(1,.tmp 36)]⟩,⟨false,some (30,true),some 38,3,.lookup 125 (.tmp 34) (.tmp 37) false⟩,⟨false,some (30,true),some 39,4,.binOp .gtr 3 (.tmp 38) (.const (.int .i64 0)) 3⟩,⟨false,none,some 40,4,.pick (.tmp 30) (.tmp 39) (.const (.bool false))⟩]) (.cond (.tmp 40) (.ops [⟨false,none,some 41,3,.move (.tmp 7)⟩,⟨false,none,some 42,0,.indexAddr 135 (.tmp 4) (.tmp 41)⟩,⟨false,none,none,0,.store 4 (.tmp 42) (.const (.bool true))⟩]) (.skip))))) (.ops [⟨false,none,some 43,3,.binOp .add 3 (.tmp 23) (.const (.int .i64 1)) 3⟩,⟨false,none,some 23,3,.move (.tmp 43)⟩])))
noncomputable def mc94_l1:MC:=.seq (.ops [⟨false,none,some 14,4,.binOp .lss 3 (.tmp 13) (.const (.int .i64 356)) 3⟩]) (.seq (.cond (.tmp 14) (.skip) (.exit 2)) (.seq (.block 3 (.seq (.ops [⟨false,none,some 15,3,.move (.tmp 13)⟩,⟨false,none,some 5,3,.assign (.tmp 15)⟩]) (.seq (.ops [⟨false,none,some 16,98,.move (.tmp 0)⟩,⟨false,none,some 17,3,.move (.tmp 5)⟩,⟨false,none,some 18,0,.nilCheck (.tmp 16)⟩,⟨false,none,some 19,0,.fieldAddr 128 (.tmp 18) 0⟩,⟨false,none,some 20,0,.indexAddr 126 (.tmp 19) (.tmp 17)⟩,⟨false,none,some 21,42,.load 42 (.tmp 20)⟩,⟨false,none,some 22,3,.call ⟨.builtin .len,#[.tmp 21],#[42]⟩⟩,⟨false,none,some 23,3,.move (.const (.int .i64 0))⟩]) (.block 4 (.loop mc94_l2))))) (.ops [⟨false,none,some 44,3,.binOp .add 3 (.tmp 13) (.const (.int .i64 1)) 3⟩,⟨false,none,some 13,3,.move (.tmp 44)⟩])))
noncomputable def mc94_l0:MC:=.seq (.seq (.ops [⟨false,none,some 9,135,.load 135 (.tmp 4)⟩,⟨false,none,some 10,135,.load 135 (.tmp 3)⟩,⟨false,none,some 11,4,.binOp .neq 135 (.tmp 9) (.tmp 10) 135⟩]) (.cond (.tmp 11) (.skip) (.exit 0))) (.block 1 (.seq (.ops [⟨false,none,some 12,135,.load 135 (.tmp 4)⟩,⟨false,none,none,0,.store 135 (.tmp 3) (.tmp 12)⟩]) (.seq (.ops [⟨false,none,some 13,3,.move (.const (.int .i64 0))⟩]) (.block 2 (.loop mc94_l1)))))
noncomputable def mc94:MC:=.seq (.ops [⟨false,none,some 2,0,.alloc 135⟩]) (.seq (.ops [⟨false,none,some 3,0,.alloc 135⟩]) (.seq (.ops [⟨false,none,some 8,135,.build 135 #[(0,.const (.bool true))]⟩,⟨false,none,some 4,0,.alloc 135⟩,⟨false,none,none,0,.store 135 (.tmp 4) (.tmp 8)⟩]) (.seq (.block 0 (.loop mc94_l0)) (.seq (.ops [⟨false,none,some 45,135,.load 135 (.tmp 4)⟩,⟨false,none,none,0,.store 135 (.tmp 2) (.tmp 45)⟩]) (.ret)))))
theorem text94:textF Try.prog 94=some (46,[.cell 2 135],mc94):=by kernel_rfl
end Go.Proofs.Ytiokkkjahkhbfaa.walk
namespace Go.Sh
open Go
abbrev Wy:Type:=Int × Int
def leF (L:List (Wy × Int)) (a b:Int):Int:=(lookK L (a,b)).getD 0
def bAt (b:List Bool) (k:Nat):Bool:=match b[k]? with | some x=>x | none=>false
def stE (L:List (Wy × Int)) (f:Nat) (b:List Bool) (z:Int):List Bool:=if bAt b f && decide (0 < leF L f z) then b.set z.toNat true else b
def stF (L:List (Wy × Int)) (nx:List (List Int)) (b:List Bool) (f:Nat):List Bool:=match nx[f]? with | some r=>r.foldl (stE L f) b | none=>b
def rnd (L:List (Wy × Int)) (nx:List (List Int)) (b:List Bool):List Bool:=(List.range 356).foldl (stF L nx) b
def rchN (L:List (Wy × Int)) (nx:List (List Int)):Nat→List Bool→List Bool→List Bool
 | 0,_,now=>now
 | n + 1,bf,now=>if now=bf then now else rchN L nx n now (rnd L nx now)
def b0L:List Bool:=List.replicate 356 false
def b1L:List Bool:=true::List.replicate 355 false
def rchL (L:List (Wy × Int)) (nx:List (List Int)):List Bool:=rchN L nx 400 b0L b1L
theorem bAt_set (b:List Bool) (k j:Nat):bAt (b.set k true) j=if j=k∧k < b.length then true else bAt b j:=by
 unfold bAt
 rw [List.getElem?_set]
 by_cases e:k=j
 ·subst e
  by_cases h:k < b.length
  ·simp [h]
  ·simp [h]
 ·rw [if_neg e,if_neg (fun h=>e h.1.symm)]
def leB (a b:List Bool):Prop:=a.length=b.length∧∀ k,bAt a k=true→bAt b k=true
theorem leB.refl (a:List Bool):leB a a:=⟨rfl,fun _ h=>h⟩
theorem leB.trans {a b c:List Bool} (h:leB a b) (k:leB b c):leB a c:=⟨h.1.trans k.1,fun j hj=>k.2 j (h.2 j hj)⟩
theorem stE_le (L:List (Wy × Int)) (f:Nat) (b:List Bool) (z:Int):leB b (stE L f b z):=by
 unfold stE
 split
 ·refine ⟨by simp,fun k hk=>?_⟩
  rw [bAt_set]
  split
  ·rfl
  ·exact hk
 ·exact leB.refl b
theorem foldE_le (L:List (Wy × Int)) (f:Nat):∀ (r:List Int) (b:List Bool),leB b (r.foldl (stE L f) b)
 | [],b=>leB.refl b
 | z::r,b=>(stE_le L f b z).trans (foldE_le L f r _)
theorem stF_le (L:List (Wy × Int)) (nx:List (List Int)) (b:List Bool) (f:Nat):leB b (stF L nx b f):=by
 unfold stF
 split
 ·exact foldE_le L f _ b
 ·exact leB.refl b
theorem foldF_le (L:List (Wy × Int)) (nx:List (List Int)):∀ (l:List Nat) (b:List Bool),leB b (l.foldl (stF L nx) b)
 | [],b=>leB.refl b
 | f::l,b=>(stF_le L nx b f).trans (foldF_le L nx l _)
theorem rnd_le (L:List (Wy × Int)) (nx:List (List Int)) (b:List Bool):leB b (rnd L nx b):=foldF_le L nx _ b
theorem count_le:∀ {a b:List Bool},leB a b→a.count true≤b.count true∧(a ≠ b→a.count true < b.count true)
 | [],[],_=>⟨Nat.le_refl _,fun h=>absurd rfl h⟩
 | [],_::_,h=>by have:=h.1; simp at this
 | _::_,[],h=>by have:=h.1; simp at this
 | x::a,y::b,h=>by
  have ht:leB a b:=⟨by have:=h.1; simpa using this,fun k hk=>h.2 (k + 1) hk⟩
  have h0:x=true→y=true:=fun e=>h.2 0 e
  obtain ⟨i1,i2⟩:=count_le ht
  rw [List.count_cons,List.count_cons]
  by_cases e:a=b
  ·subst e
   cases x <;> cases y
   ·simp
   ·simp
   ·have:=h0 rfl; cases this
   ·simp
  ·have:=i2 e
   cases x <;> cases y
   ·simp; omega
   ·simp; omega
   ·have:=h0 rfl; cases this
   ·simp; omega
theorem count_len (a:List Bool):a.count true≤a.length:=List.count_le_length
theorem fold_take {α β:Type} (g:β→α→β) (b:β) {l:List α} {i:Nat} {x:α} (h:l[i]?=some x):(l.take (i + 1)).foldl g b=g ((l.take i).foldl g b) x:=by
 rw [List.take_add_one,h,List.foldl_append]; rfl
theorem fold_rng {β:Type} (g:β→Nat→β) (b:β) (i:Nat):(List.range (i + 1)).foldl g b=g ((List.range i).foldl g b) i:=by
 rw [List.range_succ,List.foldl_append]; rfl
theorem sameL_bools:∀ (n:Nat) (a b:List Bool),a.length=n→b.length=n→sameL (List.replicate n 1) (a.map Value.bool) (b.map Value.bool)=some (decide (a=b))
 | 0,[],[],_,_=>rfl
 | 0,_::_,_,h,_=>by simp at h
 | 0,_,_::_,_,h=>by simp at h
 | n + 1,[],_,h,_=>by simp at h
 | n + 1,_::_,[],_,h=>by simp at h
 | n + 1,x::a,y::b,h1,h2=>by
  have ih:=sameL_bools n a b (by simpa using h1) (by simpa using h2)
  rw [List.replicate_succ,List.map_cons,List.map_cons]
  unfold sameL
  have e:same1 1 (Value.bool x) (Value.bool y)=some (decide (x=y)):=by cases x <;> cases y <;> rfl
  rw [e]
  by_cases k:x=y
  ·subst k
   simp only [decide_true,cond_true,ih,List.cons.injEq,true_and]
  ·simp only [decide_eq_false k,cond_false,List.cons.injEq,k,false_and,decide_false]
def bC (b:List Bool):List Value:=b.map Value.bool
theorem bC_length (b:List Bool):(bC b).length=b.length:=by simp [bC]
theorem bC_at {b:List Bool} {k:Nat} (h:k < b.length):(bC b)[k]?=some (.bool (bAt b k)):=by
 unfold bC bAt
 rw [List.getElem?_map,List.getElem?_eq_getElem h]; rfl
theorem bC_set (b:List Bool) (k:Nat) (h:k < b.length):(bC b).take k++(.bool true::(bC b).drop (k + 1))=bC (b.set k true):=by
 unfold bC
 apply List.ext_getElem?
 intro j
 rw [List.getElem?_map,List.getElem?_set]
 have hk:(List.take k (List.map Value.bool b)).length=k:=by simp; omega
 by_cases e:j < k
 ·rw [List.getElem?_append_left (by omega),List.getElem?_take,if_pos e,List.getElem?_map,if_neg (by omega)]
 ·rw [List.getElem?_append_right (by omega),hk]
  by_cases e2:j=k
  ·subst e2
   simp [h]
  ·obtain ⟨m,hm⟩:∃ m,j - k=m + 1:=⟨j - k - 1,by omega⟩
   rw [hm,List.getElem?_cons_succ,List.getElem?_drop,List.getElem?_map,if_neg (by omega)]
   congr 2; omega
end Go.Sh
namespace Go.Proofs.Ytiokkkjahkhbfaa.walk
open Go Go.Sh
set_option maxRecDepth 100000
def wyC (k:Wy):Value:=.agg ⟨[.int .i64 k.1,.int .i64 k.2]⟩
theorem wy_ok:KeyOk (true,[0,0]) wyC:=by
 refine ⟨fun a=>rfl,fun a b=>?_⟩
 obtain ⟨a1,a2⟩:=a
 obtain ⟨b1,b2⟩:=b
 by_cases h1:a1=b1 <;> by_cases h2:a2=b2 <;> simp [wyC,eqFlat,flatCells,sameL,same1,sameInt,sameK_refl,intEq_eq,h1,h2]
theorem map125:mapOf Try.prog 125=some (3,(true,[0,0])):=by kernel_rfl
theorem arr126:arrN Try.prog 126=some (356,42):=by kernel_rfl
theorem arr135:arrN Try.prog 135=some (356,4):=by kernel_rfl
theorem sz4:szOf Try.prog 4=some 1:=by kernel_rfl
theorem ia126 (w:AW) (a:Addr) {i:Nat} (hi:i < 356):indexAddrA Try.prog w 126 (.pointer (some a)) (.int .i64 (i:Int))=.val (.pointer (some (a.add (i * 1)))) w:=ia_arr arr126 sz42 rfl w a _ hi
theorem ia135 (w:AW) (a:Addr) {i:Nat} (hi:i < 356):indexAddrA Try.prog w 135 (.pointer (some a)) (.int .i64 (i:Int))=.val (.pointer (some (a.add (i * 1)))) w:=ia_arr arr135 sz4 rfl w a _ hi
theorem al135L (w:AW):allocA Try.prog w 135=.val (.pointer (some ⟨w.next,0,none⟩)) ⟨w.heap.put w.next (some (.cells (bC b0L) 135 false)),w.next + 1,w.lim⟩:=(al135 w).trans (by kernel_rfl)
theorem bd135L (w:AW):buildA Try.prog w 135 [(0,.bool true)]=.val (.agg ⟨bC b1L⟩) w:=(bd135_0 w true).trans (by kernel_rfl)
theorem ne135R (c:Bool) (x y:Value) (w:AW):(binW Try.prog .neq 135 c).val x y w=vR w ((eqFlat true (List.replicate 356 1) x y).map fun b=>.bool (!b)):=bin_neq (by kernel_rfl) c x y
theorem ne135L (c:Bool) (a b:List Bool) (ha:a.length=356) (hb:b.length=356) (w:AW):(binW Try.prog .neq 135 c).val (.agg ⟨bC a⟩) (.agg ⟨bC b⟩) w=.val (.bool (!decide (a=b))) w:=by
 have e:eqFlat true (List.replicate 356 1) (.agg ⟨bC a⟩) (.agg ⟨bC b⟩)=some (decide (a=b)):=by
  unfold eqFlat flatCells
  simp only [cond_true]
  exact sameL_bools 356 a b ha hb
 rw [ne135R,e]; rfl
structure NetV (w:AW) (N km:Nat) (nvs:List Value) (nx:List (List Int)) (L:List (Wy × Int)):Prop where
 g:w.heap.get N=some (.cells (nvs++[.map (some km)]) 128 false)
 lv:nvs.length=356
 lx:nx.length=356
 rows:∀ (f:Nat) v r,nvs[f]?=some v→nx[f]?=some r→RowsV intC w v r
 m:MapAt wyC inV w km L
 to:∀ r ∈ nx,∀ z ∈ r,0≤z∧z < 356
 sh:∀ r ∈ nx,r.length≤1000
 nN:N < w.next
 nk:km < w.next
theorem NetV.up {w w':AW} {N km:Nat} {nvs:List Value} {nx:List (List Int)} {L:List (Wy × Int)} (h:NetV w N km nvs nx L) (u:Up w w'):NetV w' N km nvs nx L :=
 ⟨by rw [u.at h.nN]; exact h.g,h.lv,h.lx,fun f v r h1 h2=>(h.rows f v r h1 h2).up u,mapAt_up h.m u h.nk,h.to,h.sh,Nat.lt_of_lt_of_le h.nN u.next,Nat.lt_of_lt_of_le h.nk u.next⟩
section
variable {ov:Ov} {w0:AW} {N km:Nat} {nvs:List Value} {nx:List (List Int)} {L:List (Wy × Int)}
theorem fold_len {f:Nat} {r:List Int} {b:List Bool} (h:b.length=356):(r.foldl (stE L f) b).length=356:=by rw [← (foldE_le L f r b).1,h]
set_option maxHeartbeats 1000000 in
theorem loop94c (K:Nat) (hN:NetV w0 N km nvs nx L) {C D n1:Nat} (hC0:w0.next≤C) (hD0:w0.next≤D) (hCD:¬ C=D) (hl0:w0.lim≤w0.next) (hDn:D < n1) (f:Nat) (hf:f < 356) (row:List Int) (hr:nx[f]?=some row) (rv:Value) (hrow:RowsV intC w0 rv row) (a b:List Bool) (hb:b.length=356) (w:AW) (hu:Up w0 w) (hn:w.next=n1) (gC:w.heap.get C=some (.cells (bC a) 135 false)) (gD:w.heap.get D=some (.cells (bC b) 135 false))
  (v2 v13:Value) (t:Tm) (t0:tget t 0=.pointer (some ⟨N,0,none⟩)) (t2:tget t 2=v2) (t3:tget t 3=.pointer (some ⟨C,0,none⟩)) (t4:tget t 4=.pointer (some ⟨D,0,none⟩)) (t5:tget t 5=.int .i64 (f:Nat)) (t13:tget t 13=v13) (t21:tget t 21=rv) (t22:tget t 22=.int .i64 (row.length:Nat)) (t23:tget t 23=.int .i64 0) (Q:Ex→Tm→AW→Prop)
  (hQ:∀ t w',Up w0 w'→w'.next=n1→w'.heap.get C=some (.cells (bC a) 135 false)→w'.heap.get D=some (.cells (bC (row.foldl (stE L f) b)) 135 false)→tget t 0=.pointer (some ⟨N,0,none⟩)→tget t 2=v2→tget t 3=.pointer (some ⟨C,0,none⟩)→tget t 4=.pointer (some ⟨D,0,none⟩)→tget t 13=v13→Q (.exit 4) t w'):wp (exM Try.prog (run Try.prog ov K) (.loop mc94_l2) t w) Q:=by
 refine wp_rounds (fun i t w'=>Up w0 w'∧w'.next=n1∧w'.heap.get C=some (.cells (bC a) 135 false)∧w'.heap.get D=some (.cells (bC ((row.take i).foldl (stE L f) b)) 135 false)∧tget t 0=.pointer (some ⟨N,0,none⟩)∧tget t 2=v2∧tget t 3=.pointer (some ⟨C,0,none⟩)∧tget t 4=.pointer (some ⟨D,0,none⟩)∧tget t 5=.int .i64 (f:Nat)∧tget t 13=v13∧tget t 21=rv∧tget t 22=.int .i64 (row.length:Nat)∧tget t 23=.int .i64 (i:Nat)∧i≤row.length) 2000 (by decide) ⟨hu,hn,gC,gD,t0,t2,t3,t4,t5,t13,t21,t22,by simpa using t23,Nat.zero_le _⟩ ?_
 clear t0 t2 t3 t4 t5 t13 t21 t22 t23 hu hn gC gD t w
 rintro i t w ⟨hu,hn,gC,gD,t0,t2,t3,t4,t5,t13,t21,t22,t23,hi⟩
 have hsh:=hN.sh row (List.mem_of_getElem? hr)
 by_cases hlt:i < row.length
 ·obtain ⟨z,hz⟩:=lt_get hlt
  obtain ⟨z0,z1⟩:=hN.to row (List.mem_of_getElem? hr) z (List.mem_of_getElem? hz)
  obtain ⟨k,rfl⟩:∃ k:Nat,z=k:=⟨z.toNat,by omega⟩
  obtain ⟨p,ia,_,ld,_⟩:=getR un42 sz3 intC_length (hrow.up hu) rfl hz
  have ld:=ld 0 _ rfl
  simp only [Nat.add_zero] at ld
  have hw1:IntKind.wrap .i64 ((i:Int) + 1)=(i:Int) + 1:=wrap64_in (by omega) (by omega)
  have hN':=hN.up hu
  have gN:=hN'.g
  have hbl:=fold_len (L:=L) (f:=f) (r:=row.take i) hb
  have hfold:=fold_take (stE L f) b hz
  obtain ⟨b',hb'⟩:∃ b',b'=(row.take i).foldl (stE L f) b:=⟨_,rfl⟩
  rw [← hb'] at gD hbl hfold
  have i1:=fun w=>ia135 w ⟨D,0,none⟩ hf
  have i2:=fun w=>ia135 w ⟨D,0,none⟩ (show k < 356 by omega)
  have a1:=bC_at (b:=b') (k:=f) (by omega)
  have s1:=bC_set b' k (by omega)
  have f1:k + 1≤(bC b').length:=by rw [bC_length]; omega
  have hlk:=lookup_k (P:=Try.prog) (s:=125) map125 wy_ok zero3 hN'.m ((f:Nat),(k:Nat)) false
  have hlv:lookupA Try.prog w 125 (.map (some km)) (.agg ⟨[.int .i64 (f:Nat),.int .i64 (k:Nat)]⟩) false=.val (.int .i64 (leF L (f:Nat) (k:Nat))) w:=by
   refine hlk.trans ?_
   unfold leF
   cases lookK L ((f:Nat),(k:Nat)) <;> rfl
  have am:(nvs++[.map (some km)])[356]?=some (Value.map (some km)):=by rw [List.getElem?_append_right (by rw [hN.lv]; exact Nat.le_refl _),hN.lv]; rfl
  obtain ⟨ns,hns⟩:∃ ns,ns=nvs++[Value.map (some km)]:=⟨_,rfl⟩
  rw [← hns] at gN am
  obtain ⟨cs,hcs⟩:∃ cs,cs=bC b':=⟨_,rfl⟩
  rw [← hcs] at gD a1 f1 s1
  have lD:w.lim≤D:=by rw [hu.lim]; omega
  have ND:¬ N=D:=by have:=hN.nN; omega
  cases hbf:bAt b' f with
  | false =>
   rw [hbf] at a1
   have e:stE L f b' (k:Nat)=b':=by simp [stE,hbf]
   rw [e] at hfold
   simp [mc94_l2,t0,t2,t3,t4,t5,t13,t21,t22,t23,hlt,ia,ld,i1,gD,a1,hw1]
   exact ⟨by omega,hu,hn,gC,by rw [hfold,← hcs],hlt⟩
  | true =>
   rw [hbf] at a1
   by_cases hp:0 < leF L (f:Nat) (k:Nat)
   ·have e:stE L f b' (k:Nat)=b'.set k true:=by simp [stE,hbf,hp]
    rw [e] at hfold
    simp [mc94_l2,t0,t2,t3,t4,t5,t13,t21,t22,t23,hlt,ia,ld,i1,i2,gD,gN,ND,am,a1,f1,lD,hlv,hp,hw1]
    refine ⟨by omega,?_,hn,?_,?_,hlt⟩
    ·exact ⟨fun x hx=>by rw [get_put,if_neg (by omega)]; exact hu.at hx,hu.next,hu.lim⟩
    ·rw [if_neg hCD]; exact gC
    ·rw [hfold,s1]
   ·have e:stE L f b' (k:Nat)=b':=by simp [stE,hbf,hp]
    rw [e] at hfold
    simp [mc94_l2,t0,t2,t3,t4,t5,t13,t21,t22,t23,hlt,ia,ld,i1,gD,gN,ND,am,a1,hlv,hp,hw1]
    exact ⟨by omega,hu,hn,gC,by rw [hfold,← hcs],hlt⟩
 ·have hi':i=row.length:=by omega
  subst hi'
  rw [List.take_length] at gD
  simp [mc94_l2,t22,t23]
  exact hQ _ _ hu hn gC gD (by simp [t0]) (by simp [t2]) (by simp [t3]) (by simp [t4]) (by simp [t13])
set_option maxHeartbeats 1000000 in
theorem loop94b (K:Nat) (hN:NetV w0 N km nvs nx L) {C D n1:Nat} (hC0:w0.next≤C) (hD0:w0.next≤D) (hCD:¬ C=D) (hl0:w0.lim≤w0.next) (hDn:D < n1) (a b:List Bool) (hb:b.length=356) (w:AW) (hu:Up w0 w) (hn:w.next=n1) (gC:w.heap.get C=some (.cells (bC a) 135 false)) (gD:w.heap.get D=some (.cells (bC b) 135 false))
  (v2:Value) (t:Tm) (t0:tget t 0=.pointer (some ⟨N,0,none⟩)) (t2:tget t 2=v2) (t3:tget t 3=.pointer (some ⟨C,0,none⟩)) (t4:tget t 4=.pointer (some ⟨D,0,none⟩)) (t13:tget t 13=.int .i64 0) (Q:Ex→Tm→AW→Prop)
  (hQ:∀ t w',Up w0 w'→w'.next=n1→w'.heap.get C=some (.cells (bC a) 135 false)→w'.heap.get D=some (.cells (bC (rnd L nx b)) 135 false)→tget t 0=.pointer (some ⟨N,0,none⟩)→tget t 2=v2→tget t 3=.pointer (some ⟨C,0,none⟩)→tget t 4=.pointer (some ⟨D,0,none⟩)→Q (.exit 2) t w'):wp (exM Try.prog (run Try.prog ov K) (.loop mc94_l1) t w) Q:=by
 refine wp_rounds (fun i t w'=>Up w0 w'∧w'.next=n1∧w'.heap.get C=some (.cells (bC a) 135 false)∧w'.heap.get D=some (.cells (bC ((List.range i).foldl (stF L nx) b)) 135 false)∧tget t 0=.pointer (some ⟨N,0,none⟩)∧tget t 2=v2∧tget t 3=.pointer (some ⟨C,0,none⟩)∧tget t 4=.pointer (some ⟨D,0,none⟩)∧tget t 13=.int .i64 (i:Nat)∧i≤356) 400 (by decide) ⟨hu,hn,gC,gD,t0,t2,t3,t4,by simpa using t13,Nat.zero_le _⟩ ?_
 clear t0 t2 t3 t4 t13 hu hn gC gD t w
 rintro i t w ⟨hu,hn,gC,gD,t0,t2,t3,t4,t13,hi⟩
 by_cases hlt:i < 356
 ·obtain ⟨rv,hrv⟩:=lt_get (show i < nvs.length by rw [hN.lv]; exact hlt)
  obtain ⟨row,hrow⟩:=lt_get (show i < nx.length by rw [hN.lx]; exact hlt)
  have hR:=hN.rows i rv row hrv hrow
  have hN':=hN.up hu
  have gN:=hN'.g
  have l42:=fun w2=>len42V (w':=w2) hR
  have hlt':(i:Int) < 356:=by omega
  have hw1:IntKind.wrap .i64 ((i:Int) + 1)=(i:Int) + 1:=wrap64_in (by omega) (by omega)
  have i1:=fun w=>ia126 w ⟨N,0,none⟩ hlt
  have ar:(nvs++[.map (some km)])[i]?=some rv:=by rw [List.getElem?_append_left (by rw [hN.lv]; exact hlt)]; exact hrv
  have hbl:((List.range i).foldl (stF L nx) b).length=356:=by rw [← (foldF_le L nx (List.range i) b).1,hb]
  have efold:(List.range (i + 1)).foldl (stF L nx) b=row.foldl (stE L i) ((List.range i).foldl (stF L nx) b):=by
   rw [fold_rng]
   show stF L nx _ i=_
   unfold stF
   rw [hrow]
  obtain ⟨ns,hns⟩:∃ ns,ns=nvs++[Value.map (some km)]:=⟨_,rfl⟩
  rw [← hns] at gN ar
  obtain ⟨ra,rc,rfl⟩:=hR.len
  simp [mc94_l1,t0,t2,t3,t4,t13,hlt,hlt',i1,gN,ar,l42]
  refine wp_seqX (wp_blockX (wp_blockX ?_))
  refine (loop94c (ov:=ov) K hN hC0 hD0 hCD hl0 hDn i hlt row hrow _ hR a _ hbl w hu hn gC gD v2 (.int .i64 (i:Nat)) _ (by simp [t0]) (by simp [t2]) (by simp [t3]) (by simp [t4]) (by simp) (by simp [t13]) (by simp) (by simp) (by simp) _ ?_)
  intro t w2 hu2 hn2 gC2 gD2 t0 t2 t3 t4 t13
  rw [← efold] at gD2
  simp [t13,hw1]
  exact ⟨by omega,hu2,hn2,gC2,gD2,t0,t2,t3,t4,by omega⟩
 ·have hi':i=356:=by omega
  subst hi'
  simp [mc94_l1,t13]
  exact hQ _ _ hu hn gC gD (by simp [t0]) (by simp [t2]) (by simp [t3]) (by simp [t4])
def S94:PSpec where
 R args w v:=∃ (N km:Nat) (nvs:List Value) (nx:List (List Int)) (L:List (Wy × Int)),args=[.pointer (some ⟨N,0,none⟩)]∧NetV w N km nvs nx L∧v=.agg ⟨bC (rchL L nx)⟩
 uniq:=by
  rintro _ w _ _ ⟨N,km,nvs,nx,L,rfl,h,rfl⟩ ⟨N',km',nvs',nx',L',e,h',rfl⟩
  cases e
  have e1:=h.g.symm.trans h'.g
  simp only [Option.some.injEq,AObj.cells.injEq,and_true] at e1
  have e2:=List.append_inj e1 (by rw [h.lv,h'.lv])
  obtain ⟨rfl,e3⟩:=e2
  cases e3
  have e4:=(h.m:w.heap.get km=_).symm.trans h'.m
  simp only [Option.some.injEq,AObj.map.injEq] at e4
  have key:∀ (i:Nat) (A B:List (Wy × Int)),entsK wyC inV i A=entsK wyC inV i B→A=B:=by
   intro i A
   induction A generalizing i with
   | nil=>intro B hB; cases B with | nil=>rfl | cons _ _=>simp [entsK] at hB
   | cons x A ih =>
    intro B hB
    cases B with
    | nil=>simp [entsK] at hB
    | cons y B =>
     simp only [entsK,List.cons.injEq,MapEntry.mk.injEq] at hB
     obtain ⟨⟨k1,k2,_⟩,k3⟩:=hB
     rw [ih _ B k3]
     obtain ⟨⟨x1,x2⟩,x3⟩:=x
     obtain ⟨⟨y1,y2⟩,y3⟩:=y
     simp [wyC,inV] at k1 k2
     obtain ⟨rfl,rfl⟩:=k1
     subst k2
     rfl
  rw [key 0 L L' e4.1]
  have e5:nx=nx':=by
   apply List.ext_getElem?
   intro f
   by_cases hf:f < 356
   ·obtain ⟨v,hv⟩:=lt_get (show f < nvs.length by rw [h.lv]; exact hf)
    obtain ⟨r,hr⟩:=lt_get (show f < nx.length by rw [h.lx]; exact hf)
    obtain ⟨r',hr'⟩:=lt_get (show f < nx'.length by rw [h'.lx]; exact hf)
    rw [hr,hr',(h.rows f v r hv hr).uniq (m:=1) intC_length intC_inj (h'.rows f v r' hv hr')]
   ·rw [List.getElem?_eq_none (by rw [h.lx]; omega),List.getElem?_eq_none (by rw [h'.lx]; omega)]
  rw [e5]
 shut:=by rintro _ _ _ ⟨N,km,nvs,nx,L,e,h,h2⟩; exact ⟨N,km,nvs,nx,L,e,⟨h.g,h.lv,h.lx,h.rows,h.m,h.to,h.sh,h.nN,h.nk⟩,h2⟩
theorem bC_singles (b:List Bool):singles (bC b)=true:=by
 induction b with
 | nil=>rfl
 | cons x b ih=>exact ih
theorem wrFull {w:AW} {b:Nat} {vs c:List Value} {e:TypeId} (hs:singles vs=true) (hl:w.lim≤b) (hf:vs.length=c.length):wrO w b 0 vs (some (.cells c e false))=some ⟨w.heap.put b (some (.cells vs e false)),w.next,w.lim⟩:=by
 rw [wrO_cells hs hl (by omega)]
 simp [hf]
def RIv (L:List (Wy × Int)) (nx:List (List Int)) (w0:AW) (C D n1 i:Nat) (w:AW):Prop:=∃ a b,Up w0 w∧w.next=n1∧w.heap.get C=some (.cells (bC a) 135 false)∧w.heap.get D=some (.cells (bC b) 135 false)∧leB a b∧a.length=356∧i≤a.count true∧rchN L nx (400 - i) a b=rchL L nx
set_option maxHeartbeats 1000000 in
theorem loop94a (K:Nat) (hN:NetV w0 N km nvs nx L) {C D n1:Nat} (hC0:w0.next≤C) (hD0:w0.next≤D) (hCD:¬ C=D) (hl0:w0.lim≤w0.next) (hDn:D < n1) (hCn:C < n1) (w:AW) (hI:RIv L nx w0 C D n1 0 w)
  (v2:Value) (t:Tm) (t0:tget t 0=.pointer (some ⟨N,0,none⟩)) (t2:tget t 2=v2) (t3:tget t 3=.pointer (some ⟨C,0,none⟩)) (t4:tget t 4=.pointer (some ⟨D,0,none⟩)) (Q:Ex→Tm→AW→Prop)
  (hQ:∀ t w',Up w0 w'→w'.next=n1→w'.heap.get D=some (.cells (bC (rchL L nx)) 135 false)→(rchL L nx).length=356→tget t 2=v2→tget t 4=.pointer (some ⟨D,0,none⟩)→Q (.exit 0) t w'):wp (exM Try.prog (run Try.prog ov K) (.loop mc94_l0) t w) Q:=by
 refine wp_rounds (fun i t w'=>RIv L nx w0 C D n1 i w'∧tget t 0=.pointer (some ⟨N,0,none⟩)∧tget t 2=v2∧tget t 3=.pointer (some ⟨C,0,none⟩)∧tget t 4=.pointer (some ⟨D,0,none⟩)) 400 (by decide) ⟨hI,t0,t2,t3,t4⟩ ?_
 clear hI t0 t2 t3 t4 t w
 rintro i t w ⟨⟨a,b,hu,hn,gC,gD,hab,hal,hia,hre⟩,t0,t2,t3,t4⟩
 have hbl:b.length=356:=by rw [← hab.1,hal]
 have hca:=count_len a
 have nb:=fun c w=>ne135L c b a hbl hal w
 have l1:(bC a).length=356:=by rw [bC_length,hal]
 have l2:(bC b).length=356:=by rw [bC_length,hbl]
 have sb:=bC_singles b
 have lC:w.lim≤C:=by rw [hu.lim]; omega
 have ea:(bC a).take 356=bC a:=List.take_of_length_le (by omega)
 have eb:(bC b).take 356=bC b:=List.take_of_length_le (by omega)
 obtain ⟨ca,hca'⟩:∃ ca,ca=bC a:=⟨_,rfl⟩
 obtain ⟨cb,hcb'⟩:∃ cb,cb=bC b:=⟨_,rfl⟩
 rw [← hca'] at gC l1 ea
 rw [← hcb'] at gD l2 sb eb
 rw [← hca',← hcb'] at nb
 by_cases e:b=a
 ·have en:rchN L nx (400 - i) a b=b:=by
   cases h:400 - i with
   | zero=>rfl
   | succ n=>unfold rchN; rw [if_pos e]
  rw [en] at hre
  rw [decide_eq_true e] at nb
  simp [mc94_l0,t3,t4,gC,gD,l1,l2,ea,eb,nb]
  exact hQ _ _ hu hn (by rw [← hre,← hcb']; exact gD) (by rw [← hre]; exact hbl) (by simp [t2]) (by simp [t4])
 ·have hlt:=(count_le hab).2 (Ne.symm e)
  have hcb:=count_len b
  obtain ⟨n,hn'⟩:∃ n,400 - i=n + 1:=⟨400 - i - 1,by omega⟩
  rw [hn'] at hre
  unfold rchN at hre
  rw [if_neg e] at hre
  rw [decide_eq_false e] at nb
  have hwf:=wrFull (w:=w) (e:=135) sb lC (l2.trans l1.symm)
  simp [-wrO_cells,mc94_l0,t3,t4,gC,gD,l1,l2,ea,eb,nb,cellsOf_agg,hwf,hCD,Ne.symm hCD]
  obtain ⟨w1,hw1⟩:∃ w1:AW,w1=⟨w.heap.put C (some (.cells cb 135 false)),w.next,w.lim⟩:=⟨_,rfl⟩
  rw [← hw1]
  have hu1:Up w0 w1:=by rw [hw1]; exact ⟨fun x hx=>by rw [get_put,if_neg (by omega)]; exact hu.at hx,hu.next,hu.lim⟩
  refine wp_blockX (wp_blockX ?_)
  refine loop94b (ov:=ov) K hN hC0 hD0 hCD hl0 hDn b b hbl w1 hu1 (by rw [hw1]; exact hn) (by rw [hw1,hcb']; simp) (by rw [hw1]; show (w.heap.put C _).get D=_; rw [get_put,if_neg (Ne.symm hCD),gD,hcb']) v2 _ (by simp [t0]) (by simp [t2]) (by simp [t3]) (by simp [t4]) (by simp) _ ?_
  intro t w2 hu2 hn2 gC2 gD2 t0 t2 t3 t4
  have hn'':400 - (i + 1)=n:=by omega
  refine ⟨by omega,⟨b,rnd L nx b,hu2,hn2,gC2,gD2,rnd_le L nx b,hbl,by omega,by rw [hn'',hre]⟩,t0,t2,t3,t4⟩
set_option maxHeartbeats 1000000 in
theorem run94 (ho:∀ args w,ov 94 args w=none) (N km:Nat) (nvs:List Value) (nx:List (List Int)) (L:List (Wy × Int)) (w:AW) (hl:w.lim=w.next) (hN:NetV w N km nvs nx L):∃ v w',(run Try.prog ov 2).call 94 [.pointer (some ⟨N,0,none⟩)] w .none=.ok (.ret v) w' .none∧v=.agg ⟨bC (rchL L nx)⟩:=by
 refine call_wp text94 (by simp) (ho _ _) ?_
 have l0:(bC b0L).length=356:=by rw [bC_length]; rfl
 have l1:(bC b1L).length=356:=by rw [bC_length]; rfl
 obtain ⟨A,hA⟩:∃ A,A=w.next:=⟨_,rfl⟩
 have s1:=bC_singles b1L
 obtain ⟨w0,hw0⟩:∃ w0:AW,w0=⟨w.heap.put A (some (.cells (bC b0L) 135 false)),A + 1,w.lim⟩:=⟨_,rfl⟩
 have u0:Up w w0:=by rw [hw0,hA]; exact (Up.refl w).add _
 have n0:w0.next=A + 1:=by rw [hw0]
 have gA0:w0.heap.get A=some (.cells (bC b0L) 135 false):=by rw [hw0]; simp
 obtain ⟨w1,hw1⟩:∃ w1:AW,w1=⟨((w0.heap.put (A + 1) (some (.cells (bC b0L) 135 false))).put (A + 1 + 1) (some (.cells (bC b0L) 135 false))).put (A + 1 + 1) (some (.cells (bC b1L) 135 false)),A + 1 + 1 + 1,w.lim⟩:=⟨_,rfl⟩
 have u1:Up w0 w1:=by
  rw [hw1]
  exact ⟨fun x hx=>by rw [get_put,if_neg (by omega),get_put,if_neg (by omega),get_put,if_neg (by omega)],by rw [n0]; show A + 1≤A + 1 + 1 + 1; omega,by rw [u0.lim]⟩
 have gC1:w1.heap.get (A + 1)=some (.cells (bC b0L) 135 false):=by rw [hw1]; simp
 have gD1:w1.heap.get (A + 1 + 1)=some (.cells (bC b1L) 135 false):=by rw [hw1]; simp
 obtain ⟨x0,hx0⟩:∃ x,x=bC b0L:=⟨_,rfl⟩
 obtain ⟨x1,hx1⟩:∃ x,x=bC b1L:=⟨_,rfl⟩
 have al:=fun w=>al135L w
 have bd:=fun w=>bd135L w
 have hw1e:=hw1
 rw [hw0] at hw1e
 rw [← hx0,← hx1] at hw1e
 rw [← hx0] at l0
 rw [← hx1] at l1 s1
 simp only [← hx0] at al
 simp only [← hx1] at bd
 have hwf:=wrFull (w:=⟨((w.heap.put A (some (.cells x0 135 false))).put (A + 1) (some (.cells x0 135 false))).put (A + 1 + 1) (some (.cells x0 135 false)),A + 1 + 1 + 1,w.lim⟩) (b:=A + 1 + 1) (e:=135) s1 (by show w.lim≤A + 1 + 1; omega) (l1.trans l0.symm)
 simp [-wrO_cells,mc94,al,bd,← hA,l0,l1,cellsOf_agg,hwf]
 simp only at hw1e
 rw [← hw1e]
 have hlen:w0.lim≤w0.next:=by rw [u0.lim]; omega
 refine wp_seqX (wp_blockX (loop94a (ov:=ov) 1 (hN.up u0) (C:=A + 1) (D:=A + 1 + 1) (n1:=A + 1 + 1 + 1) (by omega) (by omega) (by omega) hlen (by omega) (by omega) w1 ⟨b0L,b1L,u1,by rw [hw1],gC1,gD1,⟨rfl,fun k hk=>?_⟩,rfl,Nat.zero_le _,rfl⟩ (.pointer (some ⟨A,0,none⟩)) _ (by simp) (by simp) (by simp) (by simp) _ ?_))
 ·exfalso
  unfold bAt b0L at hk
  rw [List.getElem?_replicate] at hk
  by_cases e:k < 356
  ·rw [if_pos e] at hk; cases hk
  ·rw [if_neg e] at hk; cases hk
 ·intro t w2 hu2 hn2 gD2 hrl t2 t4
  have gA2:=(hu2.at (show A < w0.next by omega)).trans gA0
  rw [← hx0] at gA2
  have l2:(bC (rchL L nx)).length=356:=by rw [bC_length,hrl]
  have s2:=bC_singles (rchL L nx)
  obtain ⟨x2,hx2⟩:∃ x,x=bC (rchL L nx):=⟨_,rfl⟩
  rw [← hx2] at gD2 l2 s2
  rw [← hx2]
  have e2:x2.take 356=x2:=List.take_of_length_le (by omega)
  have hwf2:=wrFull (w:=w2) (b:=A) (e:=135) s2 (by rw [hu2.lim,u0.lim]; omega) (l2.trans l0.symm)
  have nA:¬ A=A + 1 + 1:=by omega
  simp [-wrO_cells,t2,t4,gD2,gA2,l2,e2,hwf2,cellsOf_agg,tupV]
end
end Go.Proofs.Ytiokkkjahkhbfaa.walk
