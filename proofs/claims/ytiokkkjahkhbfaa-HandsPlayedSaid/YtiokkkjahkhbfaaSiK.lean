/- Part of a proof: see the text with the theorem. -/
import GoSem.Step
set_option linter.all false
namespace Go.Sh
open Go
noncomputable section
structure Box (α:Type) where
 val:α
inductive T0 (α:Type) where
 | leaf
 | node (l:T0 α) (v:Option α) (r:T0 α)
def T0.get {α:Type} (t:T0 α):Nat→Option α :=
 T0.rec (motive:=fun _=>Nat→Option α) (fun _=>none)
  (fun _ v _ l r k=>Nat.rec (motive:=fun _=>Option α) v (fun k _=>Bool.rec (motive:=fun _=>Option α) (r (Nat.div k 2)) (l (Nat.div k 2)) (Nat.beq (Nat.mod k 2) 0)) k) t
def T0.setF {α:Type} (f:Nat):T0 α→Nat→Option α→T0 α :=
 Nat.rec (motive:=fun _=>T0 α→Nat→Option α→T0 α) (fun t _ _=>t)
  (fun _ ih t k a=>T0.rec (motive:=fun _=>T0 α)
   (Nat.rec (motive:=fun _=>T0 α) (.node .leaf a .leaf) (fun k _=>Bool.rec (motive:=fun _=>T0 α) (.node .leaf none (ih .leaf (Nat.div k 2) a)) (.node (ih .leaf (Nat.div k 2) a) none .leaf) (Nat.beq (Nat.mod k 2) 0)) k)
   (fun l v r _ _=>Nat.rec (motive:=fun _=>T0 α) (.node l a r) (fun k _=>Bool.rec (motive:=fun _=>T0 α) (.node l v (ih r (Nat.div k 2) a)) (.node (ih l (Nat.div k 2) a) v r) (Nat.beq (Nat.mod k 2) 0)) k) t) f
def nth0 {α:Type} (l:List α):Nat→Option α :=
 List.rec (motive:=fun _=>Nat→Option α) (fun _=>none) (fun x _ ih k=>Nat.rec (motive:=fun _=>Option α) (some x) (fun k _=>ih k) k) l
def dropL0 {α:Type} (n:Nat):List α→List α :=
 Nat.rec (motive:=fun _=>List α→List α) (fun l=>l) (fun _ ih l=>List.rec (motive:=fun _=>List α) [] (fun _ l _=>ih l) l) n
def skip8 {α:Type} (l:List α):List α :=
 List.rec (motive:=fun _=>List α) [] (fun _ l _=>List.rec (motive:=fun _=>List α) [] (fun _ l _=>List.rec (motive:=fun _=>List α) [] (fun _ l _=>List.rec (motive:=fun _=>List α) [] (fun _ l _ =>
 List.rec (motive:=fun _=>List α) [] (fun _ l _=>List.rec (motive:=fun _=>List α) [] (fun _ l _=>List.rec (motive:=fun _=>List α) [] (fun _ l _=>List.rec (motive:=fun _=>List α) [] (fun _ l _=>l) l) l) l) l) l) l) l) l
def skipN {α:Type} (l:List α) (n:Nat):List α:=Nat.rec (motive:=fun _=>List α) l (fun _ ih=>skip8 ih) n
def nth {α:Type} (l:List α) (k:Nat):Option α:=nth0 (skipN l (Nat.div k 8)) (Nat.mod k 8)
def dropL {α:Type} (n:Nat) (l:List α):List α:=dropL0 (Nat.mod n 8) (skipN l (Nat.div n 8))
def takeL {α:Type} (n:Nat):List α→List α :=
 Nat.rec (motive:=fun _=>List α→List α) (fun _=>[]) (fun _ ih l=>List.rec (motive:=fun _=>List α) [] (fun x l _=>x::ih l) l) n
def lenL {α:Type} (l:List α):Nat→Nat :=
 List.rec (motive:=fun _=>Nat→Nat) (fun n=>n) (fun _ _ ih n=>ih (Nat.succ n)) l
def mapL {α β:Type} (f:α→β) (l:List α):List β :=
 List.rec (motive:=fun _=>List β) [] (fun x _ ih=>f x::ih) l
def appL {α:Type} (l m:List α):List α :=
 List.rec (motive:=fun _=>List α) m (fun x _ ih=>x::ih) l
def spliceL {α:Type} (n:Nat):List α→List α→List α :=
 Nat.rec (motive:=fun _=>List α→List α→List α) (fun c vs=>appL vs (dropL (lenL vs 0) c)) (fun _ ih c vs=>List.rec (motive:=fun _=>List α) [] (fun x c _=>x::ih c vs) c) n
structure Q (β:Type) where
 a:β
 b:β
 c:β
 d:β
def Q.all1 {α:Type} (x:α):Q (α):=⟨x,x,x,x⟩
def Q.get1 {α:Type} (t:Q (α)) (k:Nat):α :=
 Bool.rec (motive:=fun _=>α) (Bool.rec (motive:=fun _=>α) (t.d) (t.c) (Nat.beq (Nat.mod k 4) 2)) (Bool.rec (motive:=fun _=>α) (t.b) (t.a) (Nat.beq (Nat.mod k 4) 0)) (Nat.ble (Nat.mod k 4) 1)
def Q.put1 {α:Type} (t:Q (α)) (k:Nat) (x:α):Q (α) :=
 Q.rec (motive:=fun _=>Q (α)) (fun a b c d=>Bool.rec (motive:=fun _=>Q (α)) (Bool.rec (motive:=fun _=>Q (α)) ⟨a,b,c,x⟩ ⟨a,b,x,d⟩ (Nat.beq (Nat.mod k 4) 2)) (Bool.rec (motive:=fun _=>Q (α)) ⟨a,x,c,d⟩ ⟨x,b,c,d⟩ (Nat.beq (Nat.mod k 4) 0)) (Nat.ble (Nat.mod k 4) 1)) t
def Q.all2 {α:Type} (x:α):Q (Q (α)):=⟨(Q.all1 x),(Q.all1 x),(Q.all1 x),(Q.all1 x)⟩
def Q.get2 {α:Type} (t:Q (Q (α))) (k:Nat):α :=
 Bool.rec (motive:=fun _=>α) (Bool.rec (motive:=fun _=>α) (Q.get1 t.d (Nat.div k 4)) (Q.get1 t.c (Nat.div k 4)) (Nat.beq (Nat.mod k 4) 2)) (Bool.rec (motive:=fun _=>α) (Q.get1 t.b (Nat.div k 4)) (Q.get1 t.a (Nat.div k 4)) (Nat.beq (Nat.mod k 4) 0)) (Nat.ble (Nat.mod k 4) 1)
def Q.put2 {α:Type} (t:Q (Q (α))) (k:Nat) (x:α):Q (Q (α)) :=
 Q.rec (motive:=fun _=>Q (Q (α))) (fun a b c d=>Bool.rec (motive:=fun _=>Q (Q (α))) (Bool.rec (motive:=fun _=>Q (Q (α))) ⟨a,b,c,(Q.put1 d (Nat.div k 4) x)⟩ ⟨a,b,(Q.put1 c (Nat.div k 4) x),d⟩ (Nat.beq (Nat.mod k 4) 2)) (Bool.rec (motive:=fun _=>Q (Q (α))) ⟨a,(Q.put1 b (Nat.div k 4) x),c,d⟩ ⟨(Q.put1 a (Nat.div k 4) x),b,c,d⟩ (Nat.beq (Nat.mod k 4) 0)) (Nat.ble (Nat.mod k 4) 1)) t
def Q.all3 {α:Type} (x:α):Q (Q (Q (α))):=⟨(Q.all2 x),(Q.all2 x),(Q.all2 x),(Q.all2 x)⟩
def Q.get3 {α:Type} (t:Q (Q (Q (α)))) (k:Nat):α :=
 Bool.rec (motive:=fun _=>α) (Bool.rec (motive:=fun _=>α) (Q.get2 t.d (Nat.div k 4)) (Q.get2 t.c (Nat.div k 4)) (Nat.beq (Nat.mod k 4) 2)) (Bool.rec (motive:=fun _=>α) (Q.get2 t.b (Nat.div k 4)) (Q.get2 t.a (Nat.div k 4)) (Nat.beq (Nat.mod k 4) 0)) (Nat.ble (Nat.mod k 4) 1)
def Q.put3 {α:Type} (t:Q (Q (Q (α)))) (k:Nat) (x:α):Q (Q (Q (α))) :=
 Q.rec (motive:=fun _=>Q (Q (Q (α)))) (fun a b c d=>Bool.rec (motive:=fun _=>Q (Q (Q (α)))) (Bool.rec (motive:=fun _=>Q (Q (Q (α)))) ⟨a,b,c,(Q.put2 d (Nat.div k 4) x)⟩ ⟨a,b,(Q.put2 c (Nat.div k 4) x),d⟩ (Nat.beq (Nat.mod k 4) 2)) (Bool.rec (motive:=fun _=>Q (Q (Q (α)))) ⟨a,(Q.put2 b (Nat.div k 4) x),c,d⟩ ⟨(Q.put2 a (Nat.div k 4) x),b,c,d⟩ (Nat.beq (Nat.mod k 4) 0)) (Nat.ble (Nat.mod k 4) 1)) t
def Q.all4 {α:Type} (x:α):Q (Q (Q (Q (α)))):=⟨(Q.all3 x),(Q.all3 x),(Q.all3 x),(Q.all3 x)⟩
def Q.get4 {α:Type} (t:Q (Q (Q (Q (α))))) (k:Nat):α :=
 Bool.rec (motive:=fun _=>α) (Bool.rec (motive:=fun _=>α) (Q.get3 t.d (Nat.div k 4)) (Q.get3 t.c (Nat.div k 4)) (Nat.beq (Nat.mod k 4) 2)) (Bool.rec (motive:=fun _=>α) (Q.get3 t.b (Nat.div k 4)) (Q.get3 t.a (Nat.div k 4)) (Nat.beq (Nat.mod k 4) 0)) (Nat.ble (Nat.mod k 4) 1)
def Q.put4 {α:Type} (t:Q (Q (Q (Q (α))))) (k:Nat) (x:α):Q (Q (Q (Q (α)))) :=
 Q.rec (motive:=fun _=>Q (Q (Q (Q (α))))) (fun a b c d=>Bool.rec (motive:=fun _=>Q (Q (Q (Q (α))))) (Bool.rec (motive:=fun _=>Q (Q (Q (Q (α))))) ⟨a,b,c,(Q.put3 d (Nat.div k 4) x)⟩ ⟨a,b,(Q.put3 c (Nat.div k 4) x),d⟩ (Nat.beq (Nat.mod k 4) 2)) (Bool.rec (motive:=fun _=>Q (Q (Q (Q (α))))) ⟨a,(Q.put3 b (Nat.div k 4) x),c,d⟩ ⟨(Q.put3 a (Nat.div k 4) x),b,c,d⟩ (Nat.beq (Nat.mod k 4) 0)) (Nat.ble (Nat.mod k 4) 1)) t
def Q.all5 {α:Type} (x:α):Q (Q (Q (Q (Q (α))))):=⟨(Q.all4 x),(Q.all4 x),(Q.all4 x),(Q.all4 x)⟩
def Q.get5 {α:Type} (t:Q (Q (Q (Q (Q (α)))))) (k:Nat):α :=
 Bool.rec (motive:=fun _=>α) (Bool.rec (motive:=fun _=>α) (Q.get4 t.d (Nat.div k 4)) (Q.get4 t.c (Nat.div k 4)) (Nat.beq (Nat.mod k 4) 2)) (Bool.rec (motive:=fun _=>α) (Q.get4 t.b (Nat.div k 4)) (Q.get4 t.a (Nat.div k 4)) (Nat.beq (Nat.mod k 4) 0)) (Nat.ble (Nat.mod k 4) 1)
def Q.put5 {α:Type} (t:Q (Q (Q (Q (Q (α)))))) (k:Nat) (x:α):Q (Q (Q (Q (Q (α))))) :=
 Q.rec (motive:=fun _=>Q (Q (Q (Q (Q (α)))))) (fun a b c d=>Bool.rec (motive:=fun _=>Q (Q (Q (Q (Q (α)))))) (Bool.rec (motive:=fun _=>Q (Q (Q (Q (Q (α)))))) ⟨a,b,c,(Q.put4 d (Nat.div k 4) x)⟩ ⟨a,b,(Q.put4 c (Nat.div k 4) x),d⟩ (Nat.beq (Nat.mod k 4) 2)) (Bool.rec (motive:=fun _=>Q (Q (Q (Q (Q (α)))))) ⟨a,(Q.put4 b (Nat.div k 4) x),c,d⟩ ⟨(Q.put4 a (Nat.div k 4) x),b,c,d⟩ (Nat.beq (Nat.mod k 4) 0)) (Nat.ble (Nat.mod k 4) 1)) t
def Q.all6 {α:Type} (x:α):Q (Q (Q (Q (Q (Q (α)))))):=⟨(Q.all5 x),(Q.all5 x),(Q.all5 x),(Q.all5 x)⟩
def Q.get6 {α:Type} (t:Q (Q (Q (Q (Q (Q (α))))))) (k:Nat):α :=
 Bool.rec (motive:=fun _=>α) (Bool.rec (motive:=fun _=>α) (Q.get5 t.d (Nat.div k 4)) (Q.get5 t.c (Nat.div k 4)) (Nat.beq (Nat.mod k 4) 2)) (Bool.rec (motive:=fun _=>α) (Q.get5 t.b (Nat.div k 4)) (Q.get5 t.a (Nat.div k 4)) (Nat.beq (Nat.mod k 4) 0)) (Nat.ble (Nat.mod k 4) 1)
def Q.put6 {α:Type} (t:Q (Q (Q (Q (Q (Q (α))))))) (k:Nat) (x:α):Q (Q (Q (Q (Q (Q (α)))))) :=
 Q.rec (motive:=fun _=>Q (Q (Q (Q (Q (Q (α))))))) (fun a b c d=>Bool.rec (motive:=fun _=>Q (Q (Q (Q (Q (Q (α))))))) (Bool.rec (motive:=fun _=>Q (Q (Q (Q (Q (Q (α))))))) ⟨a,b,c,(Q.put5 d (Nat.div k 4) x)⟩ ⟨a,b,(Q.put5 c (Nat.div k 4) x),d⟩ (Nat.beq (Nat.mod k 4) 2)) (Bool.rec (motive:=fun _=>Q (Q (Q (Q (Q (Q (α))))))) ⟨a,(Q.put5 b (Nat.div k 4) x),c,d⟩ ⟨(Q.put5 a (Nat.div k 4) x),b,c,d⟩ (Nat.beq (Nat.mod k 4) 0)) (Nat.ble (Nat.mod k 4) 1)) t
def Q.all7 {α:Type} (x:α):Q (Q (Q (Q (Q (Q (Q (α))))))):=⟨(Q.all6 x),(Q.all6 x),(Q.all6 x),(Q.all6 x)⟩
def Q.get7 {α:Type} (t:Q (Q (Q (Q (Q (Q (Q (α)))))))) (k:Nat):α :=
 Bool.rec (motive:=fun _=>α) (Bool.rec (motive:=fun _=>α) (Q.get6 t.d (Nat.div k 4)) (Q.get6 t.c (Nat.div k 4)) (Nat.beq (Nat.mod k 4) 2)) (Bool.rec (motive:=fun _=>α) (Q.get6 t.b (Nat.div k 4)) (Q.get6 t.a (Nat.div k 4)) (Nat.beq (Nat.mod k 4) 0)) (Nat.ble (Nat.mod k 4) 1)
def Q.put7 {α:Type} (t:Q (Q (Q (Q (Q (Q (Q (α)))))))) (k:Nat) (x:α):Q (Q (Q (Q (Q (Q (Q (α))))))) :=
 Q.rec (motive:=fun _=>Q (Q (Q (Q (Q (Q (Q (α)))))))) (fun a b c d=>Bool.rec (motive:=fun _=>Q (Q (Q (Q (Q (Q (Q (α)))))))) (Bool.rec (motive:=fun _=>Q (Q (Q (Q (Q (Q (Q (α)))))))) ⟨a,b,c,(Q.put6 d (Nat.div k 4) x)⟩ ⟨a,b,(Q.put6 c (Nat.div k 4) x),d⟩ (Nat.beq (Nat.mod k 4) 2)) (Bool.rec (motive:=fun _=>Q (Q (Q (Q (Q (Q (Q (α)))))))) ⟨a,(Q.put6 b (Nat.div k 4) x),c,d⟩ ⟨(Q.put6 a (Nat.div k 4) x),b,c,d⟩ (Nat.beq (Nat.mod k 4) 0)) (Nat.ble (Nat.mod k 4) 1)) t
structure T (α:Type) where
 lo:Q (Q (Q (Q (Q (Q (Q (Option α)))))))
 hi:T0 α
def T.leaf {α:Type}:T α:=⟨Q.all7 none,.leaf⟩
def T.get {α:Type} (t:T α) (k:Nat):Option α:=Bool.rec (motive:=fun _=>Option α) (T0.get t.hi k) (Q.get7 t.lo k) (Nat.blt k 16384)
def T.put {α:Type} (t:T α) (k:Nat) (a:Option α):T α :=
 T.rec (motive:=fun _=>T α) (fun lo hi=>Bool.rec (motive:=fun _=>T α) ⟨lo,T0.setF (Nat.succ k) hi k a⟩ ⟨Q.put7 lo k a,hi⟩ (Nat.blt k 16384)) t
inductive Tm0 where
 | nil
 | node (v:Value) (l r:Tm0)
def getS0 (f:Nat):Nat→Box (Tm0→Value) :=
 Nat.rec (motive:=fun _=>Nat→Box (Tm0→Value)) (fun _=>⟨fun _=>undef⟩)
  (fun _ ih k=>Nat.rec (motive:=fun _=>Box (Tm0→Value)) ⟨fun t=>Tm0.rec (motive:=fun _=>Value) undef (fun v _ _ _ _=>v) t⟩
   (fun k _=>Bool.rec (motive:=fun _=>Box (Tm0→Value))
    ⟨fun t=>Tm0.rec (motive:=fun _=>Value) undef (fun _ _ r _ _=>(ih (Nat.div k 2)).val r) t⟩
    ⟨fun t=>Tm0.rec (motive:=fun _=>Value) undef (fun _ l _ _ _=>(ih (Nat.div k 2)).val l) t⟩ (Nat.beq (Nat.mod k 2) 0)) k) f
def setS0 (f:Nat):Nat→Box (Value→Tm0→Tm0) :=
 Nat.rec (motive:=fun _=>Nat→Box (Value→Tm0→Tm0)) (fun _=>⟨fun _ t=>t⟩)
  (fun _ ih k=>Nat.rec (motive:=fun _=>Box (Value→Tm0→Tm0)) ⟨fun a t=>Tm0.rec (motive:=fun _=>Tm0) (.node a .nil .nil) (fun _ l r _ _=>.node a l r) t⟩
   (fun k _=>Bool.rec (motive:=fun _=>Box (Value→Tm0→Tm0))
    ⟨fun a t=>Tm0.rec (motive:=fun _=>Tm0) (.node undef .nil ((ih (Nat.div k 2)).val a .nil)) (fun v l r _ _=>.node v l ((ih (Nat.div k 2)).val a r)) t⟩
    ⟨fun a t=>Tm0.rec (motive:=fun _=>Tm0) (.node undef ((ih (Nat.div k 2)).val a .nil) .nil) (fun v l r _ _=>.node v ((ih (Nat.div k 2)).val a l) r) t⟩ (Nat.beq (Nat.mod k 2) 0)) k) f
def gQ1 (k:Nat):Box (Q (Value)→Value) :=
 Bool.rec (motive:=fun _=>Box (Q (Value)→Value)) (Bool.rec (motive:=fun _=>Box (Q (Value)→Value)) ⟨fun t=>t.d⟩ ⟨fun t=>t.c⟩ (Nat.beq (Nat.mod k 4) 2)) (Bool.rec (motive:=fun _=>Box (Q (Value)→Value)) ⟨fun t=>t.b⟩ ⟨fun t=>t.a⟩ (Nat.beq (Nat.mod k 4) 0)) (Nat.ble (Nat.mod k 4) 1)
def sQ1 (k:Nat):Box (Value→Q (Value)→Q (Value)) :=
 Bool.rec (motive:=fun _=>Box (Value→Q (Value)→Q (Value))) (Bool.rec (motive:=fun _=>Box (Value→Q (Value)→Q (Value))) ⟨fun v t=>Q.rec (motive:=fun _=>Q (Value)) (fun a b c d=>⟨a,b,c,v⟩) t⟩ ⟨fun v t=>Q.rec (motive:=fun _=>Q (Value)) (fun a b c d=>⟨a,b,v,d⟩) t⟩ (Nat.beq (Nat.mod k 4) 2)) (Bool.rec (motive:=fun _=>Box (Value→Q (Value)→Q (Value))) ⟨fun v t=>Q.rec (motive:=fun _=>Q (Value)) (fun a b c d=>⟨a,v,c,d⟩) t⟩ ⟨fun v t=>Q.rec (motive:=fun _=>Q (Value)) (fun a b c d=>⟨v,b,c,d⟩) t⟩ (Nat.beq (Nat.mod k 4) 0)) (Nat.ble (Nat.mod k 4) 1)
def gQ2 (k:Nat):Box (Q (Q (Value))→Value) :=
 Bool.rec (motive:=fun _=>Box (Q (Q (Value))→Value)) (Bool.rec (motive:=fun _=>Box (Q (Q (Value))→Value)) ⟨fun t=>(gQ1 (Nat.div k 4)).val t.d⟩ ⟨fun t=>(gQ1 (Nat.div k 4)).val t.c⟩ (Nat.beq (Nat.mod k 4) 2)) (Bool.rec (motive:=fun _=>Box (Q (Q (Value))→Value)) ⟨fun t=>(gQ1 (Nat.div k 4)).val t.b⟩ ⟨fun t=>(gQ1 (Nat.div k 4)).val t.a⟩ (Nat.beq (Nat.mod k 4) 0)) (Nat.ble (Nat.mod k 4) 1)
def sQ2 (k:Nat):Box (Value→Q (Q (Value))→Q (Q (Value))) :=
 Bool.rec (motive:=fun _=>Box (Value→Q (Q (Value))→Q (Q (Value)))) (Bool.rec (motive:=fun _=>Box (Value→Q (Q (Value))→Q (Q (Value)))) ⟨fun v t=>Q.rec (motive:=fun _=>Q (Q (Value))) (fun a b c d=>⟨a,b,c,((sQ1 (Nat.div k 4)).val v d)⟩) t⟩ ⟨fun v t=>Q.rec (motive:=fun _=>Q (Q (Value))) (fun a b c d=>⟨a,b,((sQ1 (Nat.div k 4)).val v c),d⟩) t⟩ (Nat.beq (Nat.mod k 4) 2)) (Bool.rec (motive:=fun _=>Box (Value→Q (Q (Value))→Q (Q (Value)))) ⟨fun v t=>Q.rec (motive:=fun _=>Q (Q (Value))) (fun a b c d=>⟨a,((sQ1 (Nat.div k 4)).val v b),c,d⟩) t⟩ ⟨fun v t=>Q.rec (motive:=fun _=>Q (Q (Value))) (fun a b c d=>⟨((sQ1 (Nat.div k 4)).val v a),b,c,d⟩) t⟩ (Nat.beq (Nat.mod k 4) 0)) (Nat.ble (Nat.mod k 4) 1)
def gQ3 (k:Nat):Box (Q (Q (Q (Value)))→Value) :=
 Bool.rec (motive:=fun _=>Box (Q (Q (Q (Value)))→Value)) (Bool.rec (motive:=fun _=>Box (Q (Q (Q (Value)))→Value)) ⟨fun t=>(gQ2 (Nat.div k 4)).val t.d⟩ ⟨fun t=>(gQ2 (Nat.div k 4)).val t.c⟩ (Nat.beq (Nat.mod k 4) 2)) (Bool.rec (motive:=fun _=>Box (Q (Q (Q (Value)))→Value)) ⟨fun t=>(gQ2 (Nat.div k 4)).val t.b⟩ ⟨fun t=>(gQ2 (Nat.div k 4)).val t.a⟩ (Nat.beq (Nat.mod k 4) 0)) (Nat.ble (Nat.mod k 4) 1)
def sQ3 (k:Nat):Box (Value→Q (Q (Q (Value)))→Q (Q (Q (Value)))) :=
 Bool.rec (motive:=fun _=>Box (Value→Q (Q (Q (Value)))→Q (Q (Q (Value))))) (Bool.rec (motive:=fun _=>Box (Value→Q (Q (Q (Value)))→Q (Q (Q (Value))))) ⟨fun v t=>Q.rec (motive:=fun _=>Q (Q (Q (Value)))) (fun a b c d=>⟨a,b,c,((sQ2 (Nat.div k 4)).val v d)⟩) t⟩ ⟨fun v t=>Q.rec (motive:=fun _=>Q (Q (Q (Value)))) (fun a b c d=>⟨a,b,((sQ2 (Nat.div k 4)).val v c),d⟩) t⟩ (Nat.beq (Nat.mod k 4) 2)) (Bool.rec (motive:=fun _=>Box (Value→Q (Q (Q (Value)))→Q (Q (Q (Value))))) ⟨fun v t=>Q.rec (motive:=fun _=>Q (Q (Q (Value)))) (fun a b c d=>⟨a,((sQ2 (Nat.div k 4)).val v b),c,d⟩) t⟩ ⟨fun v t=>Q.rec (motive:=fun _=>Q (Q (Q (Value)))) (fun a b c d=>⟨((sQ2 (Nat.div k 4)).val v a),b,c,d⟩) t⟩ (Nat.beq (Nat.mod k 4) 0)) (Nat.ble (Nat.mod k 4) 1)
def gQ4 (k:Nat):Box (Q (Q (Q (Q (Value))))→Value) :=
 Bool.rec (motive:=fun _=>Box (Q (Q (Q (Q (Value))))→Value)) (Bool.rec (motive:=fun _=>Box (Q (Q (Q (Q (Value))))→Value)) ⟨fun t=>(gQ3 (Nat.div k 4)).val t.d⟩ ⟨fun t=>(gQ3 (Nat.div k 4)).val t.c⟩ (Nat.beq (Nat.mod k 4) 2)) (Bool.rec (motive:=fun _=>Box (Q (Q (Q (Q (Value))))→Value)) ⟨fun t=>(gQ3 (Nat.div k 4)).val t.b⟩ ⟨fun t=>(gQ3 (Nat.div k 4)).val t.a⟩ (Nat.beq (Nat.mod k 4) 0)) (Nat.ble (Nat.mod k 4) 1)
def sQ4 (k:Nat):Box (Value→Q (Q (Q (Q (Value))))→Q (Q (Q (Q (Value))))) :=
 Bool.rec (motive:=fun _=>Box (Value→Q (Q (Q (Q (Value))))→Q (Q (Q (Q (Value)))))) (Bool.rec (motive:=fun _=>Box (Value→Q (Q (Q (Q (Value))))→Q (Q (Q (Q (Value)))))) ⟨fun v t=>Q.rec (motive:=fun _=>Q (Q (Q (Q (Value))))) (fun a b c d=>⟨a,b,c,((sQ3 (Nat.div k 4)).val v d)⟩) t⟩ ⟨fun v t=>Q.rec (motive:=fun _=>Q (Q (Q (Q (Value))))) (fun a b c d=>⟨a,b,((sQ3 (Nat.div k 4)).val v c),d⟩) t⟩ (Nat.beq (Nat.mod k 4) 2)) (Bool.rec (motive:=fun _=>Box (Value→Q (Q (Q (Q (Value))))→Q (Q (Q (Q (Value)))))) ⟨fun v t=>Q.rec (motive:=fun _=>Q (Q (Q (Q (Value))))) (fun a b c d=>⟨a,((sQ3 (Nat.div k 4)).val v b),c,d⟩) t⟩ ⟨fun v t=>Q.rec (motive:=fun _=>Q (Q (Q (Q (Value))))) (fun a b c d=>⟨((sQ3 (Nat.div k 4)).val v a),b,c,d⟩) t⟩ (Nat.beq (Nat.mod k 4) 0)) (Nat.ble (Nat.mod k 4) 1)
structure Tm where
 lo:Q (Q (Q (Q (Value))))
 hi:Tm0
def Tm.nil:Tm:=⟨Q.all4 undef,.nil⟩
def getS (f:Nat) (k:Nat):Box (Tm→Value) :=
 Bool.rec (motive:=fun _=>Box (Tm→Value)) ⟨fun t=>(getS0 f k).val t.hi⟩ ⟨fun t=>(gQ4 k).val t.lo⟩ (Nat.blt k 256)
def setS (f:Nat) (k:Nat):Box (Value→Tm→Tm) :=
 Bool.rec (motive:=fun _=>Box (Value→Tm→Tm)) ⟨fun v t=>Tm.rec (motive:=fun _=>Tm) (fun lo hi=>⟨lo,(setS0 f k).val v hi⟩) t⟩ ⟨fun v t=>Tm.rec (motive:=fun _=>Tm) (fun lo hi=>⟨(sQ4 k).val v lo,hi⟩) t⟩ (Nat.blt k 256)
def unk:Value:=.chan (some 0)
structure ALoop where
 n:Nat
 tmps:Tm
 params:List Tmp
 assign:Code
 body:Code
 pending:Option Code
 state:LoopState
inductive AObj where
 | cells (c:List Value) (elem:TypeId) (ro:Bool)
 | map (es:List MapEntry) (clock:Nat)
 | siter (s:ByteArray) (pos:Nat)
 | miter (m:Option Nat) (since:Nat) (seen:List Nat) (last:Nat)
 | loop (l:ALoop)
structure AW where
 heap:T AObj
 next:Nat
 lim:Nat
inductive Ex where
 | normal
 | exit (id:Nat)
 | ret
 | panic (v:Value)
inductive Ctx where
 | none
 | round
 | ret
 | pan (v:Value) (rec:Bool)
inductive Out where
 | ret (v:Value)
 | panic (v:Value)
inductive R where
 | fail
 | val (v:Value) (w:AW)
 | enter (f:FuncId) (args:List Value) (w:AW)
 | yield (l:Nat) (args:List Value) (w:AW)
 | defer (d:Deferred) (w:AW)
 | recover (w:AW)
 | panic (v:Value) (w:AW)
def single (v:Value):Bool:=match v with | .agg _=>false | .tuple _=>false | _=>true
def singles:List Value→Bool
 | []=>true
 | v::l=>bif single v then singles l else false
def groundC:Nat→Value→Bool
 | 0,_=>false
 | n + 1,v =>
  match v with
  | .bool _=>true
  | .int _ _=>true
  | .float _ _=>true
  | .complex _ _ _=>true
  | .string _=>true
  | .nilFunc=>true
  | .nilIface=>true
  | .pointer a=>a.isNone
  | .map r=>r.isNone
  | .slice a l c=>a.isNone && (Nat.beq l 0 && Nat.beq c 0)
  | .agg l=>allC (groundC n) l.toList
  | .tuple l=>allC (groundC n) l.toList
  | .iface _ v=>groundC n v
  | _=>false
where
 allC (f:Value→Bool):List Value→Bool
  | []=>true
  | x::xs=>bif f x then allC f xs else false
def aggOf (P:Program) (t:TypeId):Option Bool :=
 match P.underlying t with
 | some (.struct _)=>some true
 | some (.array _ _)=>some true
 | some _=>some false
 | none=>none
def szOf (P:Program) (t:TypeId):Option Nat:=(P.info? t).map (·.size)
def cellsOf (v:Value):List Value :=
 match v with
 | .agg cs=>cs.toList
 | v=>[v]
def AW.set (w:AW) (b:Nat) (o:Option AObj):AW:=AW.rec (motive:=fun _=>AW) (fun h n l=>⟨h.put b o,n,l⟩) w
def AW.add (w:AW) (o:AObj):AW:=AW.rec (motive:=fun _=>AW) (fun h n l=>⟨h.put n (some o),Nat.succ n,l⟩) w
def cellsAt (w:AW) (b:Nat):Option (List Value) :=
 match w.heap.get b with
 | some o=>match o with
  | .cells c _ _=>some c
  | _=>none
 | none=>none
def rd (w:AW) (b off n:Nat):Option (List Value) :=
 match cellsAt w b with
 | some c=>bif Nat.ble (off + n) (lenL c 0) then some (takeL n (dropL off c)) else none
 | none=>none
def rd1 (w:AW) (b off:Nat):Option Value :=
 match cellsAt w b with
 | some c=>nth c off
 | none=>none
def wrC (w:AW) (b off:Nat) (vs c:List Value) (e:TypeId) (ro:Bool):Option AW :=
 bif ro then none else bif singles vs && Nat.ble w.lim b && Nat.ble (off + lenL vs 0) (lenL c 0) then some (w.set b (some (.cells (spliceL off c vs) e false))) else none
def wr (w:AW) (b off:Nat) (vs:List Value):Option AW :=
 match w.heap.get b with
 | some o=>match o with
  | .cells c e ro=>wrC w b off vs c e ro
  | _=>none
 | none=>none
def putO (w:AW) (r:Nat) (o:AObj):Option AW:=bif Nat.ble w.lim r then some (w.set r (some o)) else none
def partA (P:Program) (t:TypeId) (cs:List Value) (off:Nat):Option Value :=
 match aggOf P t with
 | some b=>bif b then (match szOf P t with | some n=>some (.agg ⟨takeL n (dropL off cs)⟩) | none=>none) else nth cs off
 | none=>none
def fillA (place:Nat→Option (Nat × Nat)) (cells:List Value):List (Nat × Value)→Option (List Value)
 | []=>some cells
 | p::rest =>
  match place p.1 with
  | none=>none
  | some q=>bif Nat.beq (lenL (cellsOf p.2) 0) q.2 && Nat.ble (q.1 + q.2) (lenL cells 0) then fillA place (spliceL q.1 cells (cellsOf p.2)) rest else none
def repl {α:Type} (l:List α):Nat→List α
 | 0=>[]
 | n + 1=>appL l (repl l n)
def intLe:Int→Int→Bool
 | .ofNat a,.ofNat b=>Nat.ble a b
 | .negSucc a,.negSucc b=>Nat.ble b a
 | .negSucc _,.ofNat _=>true
 | .ofNat _,.negSucc _=>false
def intEq:Int→Int→Bool
 | .ofNat a,.ofNat b=>Nat.beq a b
 | .negSucc a,.negSucc b=>Nat.beq a b
 | _,_=>false
def intLt (a b:Int):Bool:=!intLe b a
def maxI:Nat:=9223372036854775807
def wrapB (k:IntKind) (m:Nat):Int :=
 match k with
 | .i64=>bif Nat.ble m maxI then .ofNat m else IntKind.wrap .i64 (.ofNat m)
 | k=>IntKind.wrap k (.ofNat m)
def wrapN (k:IntKind) (m:Nat):Int :=
 match k with
 | .i64=>bif Nat.ble m maxI then .negSucc m else IntKind.wrap .i64 (.negSucc m)
 | k=>IntKind.wrap k (.negSucc m)
def wrapA (k:IntKind) (n:Int):Int :=
 match n with
 | .ofNat m=>bif Nat.ble m 127 then .ofNat m else wrapB k m
 | .negSucc m=>wrapN k m
def byteL:List UInt8→List UInt8→Bool
 | [],[]=>true
 | a::x,b::y=>bif Nat.beq a.toNat b.toNat then byteL x y else false
 | _,_=>false
def kNo (k:IntKind):Nat :=
 match k with
 | .i8=>0
 | .i16=>1
 | .i32=>2
 | .i64=>3
 | .u8=>4
 | .u16=>5
 | .u32=>6
 | .u64=>7
def sameK (k j:IntKind):Bool:=Nat.beq (kNo k) (kNo j)
def sameInt (c:Nat) (k:IntKind) (a:Int) (y:Value):Option Bool :=
 match y with
 | .int j b=>bif Nat.beq c 0 && sameK k j then some (intEq a b) else none
 | _=>none
def sameBool (c:Nat) (a:Bool) (y:Value):Option Bool :=
 match y with
 | .bool b=>bif Nat.beq c 1 then some (a == b) else none
 | _=>none
def sameStr (c:Nat) (a:ByteArray) (y:Value):Option Bool :=
 match y with
 | .string b=>bif Nat.beq c 2 then some (byteL a.data.toList b.data.toList) else none
 | _=>none
def same1 (c:Nat) (x y:Value):Option Bool :=
 match x with
 | .int k a=>sameInt c k a y
 | .bool a=>sameBool c a y
 | .string a=>sameStr c a y
 | _=>none
def sameL:List Nat→List Value→List Value→Option Bool
 | [],[],[]=>some true
 | c::cs,x::xs,y::ys=>match same1 c x y with
  | some b=>bif b then sameL cs xs ys else some false
  | none=>none
 | _,_,_=>none
def flatFields (flat:TypeId→Option (List Nat)):List Field→Nat→Option (List Nat)
 | [],_=>some []
 | f::fs,n=>bif Nat.beq f.offset n && !(f.name == "_") then (match flat f.type with
  | some ks=>match flatFields flat fs (n + lenL ks 0) with
   | some ls=>some (appL ks ls)
   | none=>none
  | none=>none) else none
def flat1 (P:Program) (t:TypeId) (k:Nat):Option (List Nat):=bif szOf P t == some 1 then some [k] else none
def sized (P:Program) (t:TypeId) (ks:Option (List Nat)):Option (List Nat) :=
 match ks with
 | some ks=>match szOf P t with
  | some n=>bif Nat.beq (lenL ks 0) n then some ks else none
  | none=>none
 | none=>none
def flatT (P:Program):Nat→TypeId→Option (List Nat)
 | 0,_=>none
 | d + 1,t =>
  match P.underlying t with
  | some (.int _)=>flat1 P t 0
  | some .bool=>flat1 P t 1
  | some .string=>flat1 P t 2
  | some (.struct fs)=>bif P.stoodInHeld t then none else sized P t (flatFields (flatT P d) fs.toList 0)
  | some (.array n e)=>match flatT P d e with
   | some ks=>sized P t (some (repl ks n))
   | none=>none
  | _=>none
inductive EqKind where
 | flat (agg:Bool) (ks:List Nat) | pointer | slice | map | func | iface | no
def eqKindB (P:Program) (t:TypeId):EqKind :=
 match P.underlying t with
 | some (.pointer e)=>match szOf P e with | some (_ + 1)=>.pointer | _=>.no
 | some (.slice _)=>.slice
 | some (.map _ _)=>.map
 | some (.func _ _ _)=>.func
 | some (.interface _)=>.iface
 | _=>.no
def eqKind (P:Program) (t:TypeId):EqKind :=
 match flatT P 8 t with
 | some ks=>match aggOf P t with
  | some b=>bif b && P.eqGuardType P.depth t then .no else .flat b ks
  | none=>.no
 | none=>eqKindB P t
def isLive (w:AW) (b:Nat):Bool:=match w.heap.get b with | some _=>true | none=>false
def ptrSame (w:AW) (a b:Addr):Option Bool:=bif Nat.beq a.block b.block && isLive w a.block then some (Nat.beq a.off b.off) else none
def eqPtr (w:AW) (x y:Value):Option Bool :=
 match x with
 | .pointer a=>match y with
  | .pointer b=>match a with
   | none=>some b.isNone
   | some a=>match b with
    | none=>some false
    | some b=>ptrSame w a b
  | _=>none
 | _=>none
def eqSlice (x y:Value):Option Bool :=
 match x with
 | .slice a _ _=>match y with
  | .slice b _ _=>match a with
   | none=>some b.isNone
   | some _=>match b with | none=>some false | some _=>none
  | _=>none
 | _=>none
def eqMap (x y:Value):Option Bool :=
 match x with
 | .map a=>match y with
  | .map b=>match a with
   | none=>some b.isNone
   | some _=>match b with | none=>some false | some _=>none
  | _=>none
 | _=>none
def isNilFunc (y:Value):Option Bool :=
 match y with
 | .nilFunc=>some true
 | .func ..=>some false
 | _=>none
def eqFunc (x y:Value):Option Bool :=
 match x with
 | .nilFunc=>isNilFunc y
 | .func ..=>match y with | .nilFunc=>some false | _=>none
 | _=>none
def flatCells (agg:Bool) (x:Value):Option (List Value) :=
 match x with
 | .agg l=>bif agg then some l.toList else none
 | x=>bif agg then none else some [x]
def eqFlat (agg:Bool) (ks:List Nat) (x y:Value):Option Bool :=
 match flatCells agg x with
 | none=>none
 | some xs=>match flatCells agg y with
  | none=>none
  | some ys=>sameL ks xs ys
def canEq (P:Program) (t:TypeId):Bool:=match P.info? t with | some i=>i.comparable | none=>false
def eqDyn (P:Program) (m:AW) (t:TypeId) (v w:Value):Option Bool :=
 match eqKind P t with
 | .flat agg ks=>bif canEq P t then eqFlat agg ks v w else none
 | .pointer=>bif canEq P t then eqPtr m v w else none
 | _=>none
def eqIface (P:Program) (m:AW) (c:Bool) (x y:Value):Option Bool :=
 match x with
 | .nilIface=>match y with | .nilIface=>bif c then some true else none | .iface ..=>some false | _=>none
 | .iface t v=>match y with
  | .nilIface=>some false
  | .iface u w=>bif Nat.beq t u then eqDyn P m t v w else some false
  | _=>none
 | _=>none
def eqT (P:Program) (m:AW) (c:Bool) (t:TypeId) (x y:Value):Option Bool :=
 match eqKind P t with
 | .flat agg ks=>eqFlat agg ks x y
 | .pointer=>eqPtr m x y
 | .slice=>eqSlice x y
 | .map=>eqMap x y
 | .func=>eqFunc x y
 | .iface=>eqIface P m c x y
 | .no=>none
abbrev KeyT:=Bool × List Nat
def findA (kt:KeyT) (k:Value):List MapEntry→Nat→Option (Option (Nat × Value))
 | [],_=>some none
 | e::es,i =>
  match eqFlat kt.1 kt.2 k e.key with
  | some b=>bif b then some (some (i,e.val)) else findA kt k es (Nat.succ i)
  | none=>none
def headI (l:List Value):Option (Nat × Int) :=
 match l with
 | x::_=>match x with | .int k a=>some (kNo k,a) | _=>none
 | []=>none
def headOf (kt:KeyT) (k:Value):Option (Nat × Int) :=
 match kt.2 with
 | c::_=>bif Nat.beq c 0 then (match flatCells kt.1 k with | some l=>headI l | none=>none) else none
 | []=>none
def neInt (n:Nat) (a:Int) (x:Value):Bool:=match x with | .int j b=>Nat.beq n (kNo j) && !intEq a b | _=>false
def neCells (n:Nat) (a:Int) (l:List Value):Bool:=match l with | x::_=>neInt n a x | []=>false
def neFirst (g:Bool) (n:Nat) (a:Int) (v:Value):Bool:=match flatCells g v with | some l=>neCells n a l | none=>false
def findH (i:Nat) (v:Value) (ih:Nat→Option (Option (Nat × Value))) (r:Option Bool):Option (Option (Nat × Value)) :=
 match r with
 | some b=>bif b then some (some (i,v)) else ih (Nat.succ i)
 | none=>none
def findG (kt:KeyT) (k:Value) (n:Nat) (a:Int) (es:List MapEntry):Nat→Option (Option (Nat × Value)) :=
 List.rec (motive:=fun _=>Nat→Option (Option (Nat × Value))) (fun _=>some none)
  (fun e _ ih i=>Bool.rec (motive:=fun _=>Option (Option (Nat × Value))) (findH i e.val ih (eqFlat kt.1 kt.2 k e.key)) (ih (Nat.succ i)) (neFirst kt.1 n a e.key)) es
def findF (kt:KeyT) (k:Value) (es:List MapEntry):Option (Option (Nat × Value)) :=
 match headOf kt k with
 | some p=>findG kt k p.1 p.2 es 0
 | none=>findA kt k es 0
def boundsP (P:Program) (x:Int) (y:Int):Value :=
 .iface P.rt.boundsError (.agg #[.int .i64 (IntKind.i64.wrap x),.int .i64 y,unk,.int .u8 0])
def bytesLess:List UInt8→List UInt8→Bool
 | _,[]=>false
 | [],_::_=>true
 | a::x,b::y=>bif Nat.beq a.toNat b.toNat then bytesLess x y else Nat.blt a.toNat b.toNat
def catA (a b:ByteArray):Value:=.string ⟨⟨appL a.data.toList b.data.toList⟩⟩
def addA (x y:Value):Option Value :=
 match x with
 | .int k a=>match y with | .int j b=>bif sameK k j then some (.int k (wrapA k (a + b))) else none | _=>none
 | .string a=>match y with | .string b=>bif Nat.ble (lenL a.data.toList (lenL b.data.toList 0)) 1000000 then some (catA a b) else none | _=>none
 | _=>none
def arithA (f:IntKind→Int→Int→Option Int) (x y:Value):Option Value :=
 match x with
 | .int k a=>match y with | .int j b=>bif sameK k j then (match f k a b with | some n=>some (.int k n) | none=>none) else none | _=>none
 | _=>none
def shiftV (f:IntKind→Int→Int→Option Int) (x y:Value):Option Value :=
 match x with
 | .int k a=>match y with | .int _ b=>(match f k a b with | some n=>some (.int k n) | none=>none) | _=>none
 | _=>none
def cmpA (f:Int→Int→Bool) (g:List UInt8→List UInt8→Bool) (x y:Value):Option Value :=
 match x with
 | .int k a=>match y with | .int j b=>bif sameK k j then some (.bool (f a b)) else none | _=>none
 | .string a=>match y with | .string b=>some (.bool (g a.data.toList b.data.toList)) | _=>none
 | _=>none
def shlA (k:IntKind) (a b:Int):Option Int:=bif intLt b 0 then none else some (wrapA k (a * 2 ^ (min b.toNat k.bits)))
def shrA (k:IntKind) (a b:Int):Option Int:=bif intLt b 0 then none else some (a.fdiv (2 ^ (min b.toNat k.bits)))
def subA (k:IntKind) (a b:Int):Option Int:=some (wrapA k (a - b))
def mulA (k:IntKind) (a b:Int):Option Int:=some (wrapA k (a * b))
def quoA (k:IntKind) (a b:Int):Option Int:=bif intEq b 0 then none else some (wrapA k (a.tdiv b))
def remA (_:IntKind) (a b:Int):Option Int:=bif intEq b 0 then none else some (a.tmod b)
def andA (k:IntKind) (a b:Int):Option Int:=some (wrapA k (BitVec.ofInt k.bits a &&& BitVec.ofInt k.bits b).toNat)
def orA (k:IntKind) (a b:Int):Option Int:=some (wrapA k (BitVec.ofInt k.bits a ||| BitVec.ofInt k.bits b).toNat)
def xorA (k:IntKind) (a b:Int):Option Int:=some (wrapA k (BitVec.ofInt k.bits a ^^^ BitVec.ofInt k.bits b).toNat)
def andNotA (k:IntKind) (a b:Int):Option Int:=some (wrapA k (BitVec.ofInt k.bits a &&& ~~~BitVec.ofInt k.bits b).toNat)
def gtI (a b:Int):Bool:=intLt b a
def geI (a b:Int):Bool:=intLe b a
def leS (a b:List UInt8):Bool:=!bytesLess b a
def gtS (a b:List UInt8):Bool:=bytesLess b a
def geS (a b:List UInt8):Bool:=!bytesLess a b
def eqlA (P:Program) (m:AW) (c:Bool) (t:TypeId) (x y:Value):Option Value:=match eqT P m c t x y with | some b=>some (.bool b) | none=>none
def neqA (P:Program) (m:AW) (c:Bool) (t:TypeId) (x y:Value):Option Value:=match eqT P m c t x y with | some b=>some (.bool (!b)) | none=>none
def binS (op:BinOp):Box (Value→Value→Option Value) :=
 match op with
 | .add=>⟨addA⟩
 | .sub=>⟨arithA subA⟩
 | .mul=>⟨arithA mulA⟩
 | .quo=>⟨arithA quoA⟩
 | .rem=>⟨arithA remA⟩
 | .and=>⟨arithA andA⟩
 | .or=>⟨arithA orA⟩
 | .xor=>⟨arithA xorA⟩
 | .shl=>⟨shiftV shlA⟩
 | .shr=>⟨shiftV shrA⟩
 | .andNot=>⟨arithA andNotA⟩
 | .eql=>⟨fun _ _=>none⟩
 | .neq=>⟨fun _ _=>none⟩
 | .lss=>⟨cmpA intLt bytesLess⟩
 | .leq=>⟨cmpA intLe leS⟩
 | .gtr=>⟨cmpA gtI gtS⟩
 | .geq=>⟨cmpA geI geS⟩
def vR (w:AW) (v:Option Value):R:=match v with | some v=>.val v w | none=>.fail
def binW (P:Program) (op:BinOp) (t:TypeId) (c:Bool):Box (Value→Value→AW→R) :=
 match op with
 | .eql=>⟨fun x y m=>vR m (eqlA P m c t x y)⟩
 | .neq=>⟨fun x y m=>vR m (neqA P m c t x y)⟩
 | op=>⟨fun x y m=>vR m ((binS op).val x y)⟩
def boundA (x:Option Value) (y dflt:Nat):Option Nat :=
 match x with
 | none=>some dflt
 | some v=>match v with
  | .int _ i=>match i with
   | .ofNat n=>bif Nat.ble n y then some n else none
   | _=>none
  | _=>none
def bytesOf (s:ByteArray):List UInt8:=s.data.toList
def lenA (v:Value):Option Nat :=
 match v with
 | .slice _ n _=>some n
 | .string s=>some (lenL (bytesOf s) 0)
 | _=>none
def byteV (b:UInt8):Value:=.int .u8 (.ofNat b.toNat)
def srcCells (w:AW) (size:Nat) (x:Value):Option (List Value) :=
 match x with
 | .slice a n _=>match a with
  | some a=>bif Nat.beq (n * size) 0 then some [] else rd w a.block a.off (n * size)
  | none=>some []
 | .string s=>some (mapL byteV (bytesOf s))
 | _=>none
def elemA (P:Program) (t:TypeId):Option TypeId :=
 match P.underlying t with
 | some (.slice e)=>some e
 | _=>none
def zeroA (P:Program) (t:TypeId):Option Value :=
 match P.info? t with
 | some i=>match i.zero with
  | some z=>bif groundC 3 z && (Nat.beq (lenL (cellsOf z) 0) i.size && singles (cellsOf z)) then some z else none
  | none=>none
 | none=>none
def smallT (P:Program) (t:TypeId):Bool:=match P.info? t with | some i=>Nat.ble i.bytes 1000000 && (match i.zero with | some z=>Nat.beq (lenL (cellsOf z) 0) i.size | none=>false) | none=>false
def newR (w:AW) (o:AObj) (f:Nat→Value):R:=.val (f w.next) (w.add o)
def wR (w:Option AW) (v:Value):R:=match w with | some w=>.val v w | none=>.fail
def ptrV (b:Nat):Value:=.pointer (some ⟨b,0,none⟩)
def rowV (n:Nat) (b:Nat):Value:=.slice (some ⟨b,0,none⟩) n n
def litSpot:Option Nat:=some 2
def litV (n:Nat) (b:Nat):Value:=.slice (some ⟨b,0,litSpot⟩) n n
def appendNew (w:AW) (e:TypeId) (n m size:Nat) (a:Addr) (new:List Value):R :=
 match w.heap.get a.block with
 | some o=>match o with
  | .cells c e' ro=>bif !ro && (singles new && (Nat.ble w.lim a.block && (Nat.beq (a.off + n * size) (lenL c 0) && (Nat.beq e e' && Nat.beq (Nat.mod a.off size) 0)))) then newR (w.set a.block none) (.cells (appL (dropL a.off c) new) e false) (rowV (n + m)) else .fail
  | _=>.fail
 | none=>.fail
def isExact (s:Option Nat):Bool:=match s with | some q=>Nat.beq q 2 | none=>false
def appendCopy (w:AW) (e:TypeId) (n m size:Nat) (new:List Value) (old:Option (List Value)):R :=
 match old with
 | some old=>bif Nat.beq (lenL old 0) (n * size) then newR w (.cells (appL old new) e false) (rowV (n + m)) else .fail
 | none=>.fail
def appendB (w:AW) (e:TypeId) (base:Option Addr) (n cap m size:Nat) (new:List Value):R :=
 bif Nat.beq m 0 then .val (.slice base n cap) w else
 match base with
 | none=>newR w (.cells new e false) (rowV m)
 | some a=>bif Nat.ble (n + m) cap then wR (wr w a.block (a.off + n * size) new) (.slice (some a) (n + m) cap) else bif isExact a.spot then appendCopy w e n m size new (srcCells w size (.slice (some a) n cap)) else bif a.spot.isNone then appendNew w e n m size a new else .fail
def appendA (P:Program) (w:AW) (t:TypeId) (s x:Value):R :=
 match s with
 | .slice base n cap =>
  match elemA P t with
  | none=>.fail
  | some e=>match szOf P e with
   | none=>.fail
   | some size=>match lenA x with
    | none=>.fail
    | some m=>match srcCells w size x with
     | none=>.fail
     | some new=>bif smallT P e && (Nat.ble (n + m) 1000000 && Nat.beq (lenL new 0) (m * size)) then appendB w e base n cap m size new else .fail
 | _=>.fail
def isList (P:Program) (t:TypeId):Bool:=match P.underlying t with | some (.slice _)=>true | some .string=>true | _=>false
def isI64 (P:Program) (t:TypeId):Bool:=match P.underlying t with | some (.int .i64)=>true | _=>false
def makeOnto (P:Program) (w:AW) (t:TypeId) (n:Nat):R :=
 match elemA P t with
 | some e=>match zeroA P e with
  | some z=>bif smallT P e && (Nat.ble n 1000000 && Nat.ble 1 n) then newR w (.cells (repl (cellsOf z) n) e false) (rowV n) else .fail
  | none=>.fail
 | none=>.fail
def appendMake (P:Program) (w:AW) (t:TypeId) (s x:Value):R :=
 match s with
 | .slice base _ _=>match base with
  | none=>match x with
   | .int _ n=>match n with
    | .ofNat n=>makeOnto P w t n
    | _=>.fail
   | _=>.fail
  | some _=>.fail
 | _=>.fail
def append1 (P:Program) (w:AW) (ts:List TypeId) (args:List Value):R :=
 match ts with
 | t::u::_=>bif isList P u then (match args with
  | s::x::_=>appendA P w t s x
  | _=>.fail) else bif isI64 P u then (match args with
  | s::x::_=>appendMake P w t s x
  | _=>.fail) else .fail
 | _=>.fail
def clear1 (P:Program) (w:AW) (ts:List TypeId) (args:List Value):R :=
 match ts with
 | t::_=>match elemA P t with
  | some e=>match zeroA P e with
   | some z=>match args with
    | x::_=>match x with
     | .slice base n _=>bif Nat.beq n 0 then .val (.tuple ⟨[]⟩) w else match base with
      | none=>.val (.tuple ⟨[]⟩) w
      | some a=>wR (wr w a.block a.off (repl (cellsOf z) n)) (.tuple ⟨[]⟩)
     | _=>.fail
    | _=>.fail
   | none=>.fail
  | none=>.fail
 | _=>.fail
def strOfCells:List Value→Option (List UInt8)
 | []=>some []
 | v::l=>match v with
  | .int k n=>match k with
   | .u8=>match strOfCells l with | some r=>some (UInt8.ofNat n.toNat::r) | none=>none
   | _=>none
  | _=>none
def strR (w:AW) (cs:Option (List Value)):R :=
 match cs with
 | none=>.fail
 | some cs=>match strOfCells cs with
  | some bs=>.val (.string ⟨⟨bs⟩⟩) w
  | none=>.fail
def idxByte (c:Nat):List UInt8→Nat→Int
 | [],_ => -1
 | b::l,i=>bif Nat.beq b.toNat c then .ofNat i else idxByte c l (Nat.succ i)
def noEscapeA (w:AW) (args:List Value):R :=
 match args with
 | [x]=>.val x w
 | _=>.fail
def sz1 (P:Program) (e:TypeId):Bool:=match szOf P e with | some n=>Nat.beq n 1 | none=>false
def makeNoZeroB (P:Program) (w:AW) (t:TypeId) (n:Nat):R :=
 match elemA P t with
 | some e=>bif Nat.ble n 1000000 && sz1 P e then newR w (.cells (repl [unk] n) e false) (rowV n) else .fail
 | none=>.fail
def makeNoZeroA (P:Program) (w:AW) (res:List TypeId) (args:List Value):R :=
 match res with
 | t::_=>match args with
  | [x]=>match x with
   | .int k n=>match k with
    | .i64=>match n with
     | .ofNat n=>makeNoZeroB P w t n
     | _=>.fail
    | _=>.fail
   | _=>.fail
  | _=>.fail
 | []=>.fail
def indexByteB (w:AW) (s:ByteArray) (c:Value):R :=
 match c with
 | .int k c=>match k with
  | .u8=>.val (.int .i64 (idxByte c.toNat.toUInt8.toNat (bytesOf s) 0)) w
  | _=>.fail
 | _=>.fail
def indexByteA (w:AW) (args:List Value):R :=
 match args with
 | [s,c]=>match s with
  | .string s=>indexByteB w s c
  | _=>.fail
 | _=>.fail
def cntByte (c:Nat):List UInt8→Nat→Nat
 | [],n=>n
 | b::l,n=>cntByte c l (bif Nat.beq b.toNat c then Nat.succ n else n)
def countB (w:AW) (s:ByteArray) (c:Value):R :=
 match c with
 | .int k c=>match k with
  | .u8=>.val (.int .i64 (.ofNat (cntByte c.toNat.toUInt8.toNat (bytesOf s) 0))) w
  | _=>.fail
 | _=>.fail
def countA (w:AW) (args:List Value):R :=
 match args with
 | [s,c]=>match s with
  | .string s=>countB w s c
  | _=>.fail
 | _=>.fail
def cmpB:List UInt8→List UInt8→Int
 | [],[]=>0
 | [],_::_ => -1
 | _::_,[]=>1
 | a::l,b::m=>bif Nat.beq a.toNat b.toNat then cmpB l m else bif Nat.blt a.toNat b.toNat then -1 else 1
def compareA (w:AW) (args:List Value):R :=
 match args with
 | [s,c]=>match s with
  | .string s=>match c with
   | .string c=>.val (.int .i64 (cmpB (bytesOf s) (bytesOf c))) w
   | _=>.fail
  | _=>.fail
 | _=>.fail
def externB (P:Program) (w:AW) (name:String) (res:List TypeId) (args:List Value):R :=
 bif name == "internal/abi.NoEscape" then noEscapeA w args
 else bif name == "internal/bytealg.MakeNoZero" then makeNoZeroA P w res args
 else bif name == "internal/bytealg.IndexByteString" then indexByteA w args
 else bif name == "internal/bytealg.CountString" then countA w args
 else bif name == "internal/bytealg.abigen_runtime_cmpstring" then compareA w args
 else .fail
def externA (P:Program) (w:AW) (fn:Func) (args:List Value):R :=
 bif fn.origin == "" then externB P w fn.name fn.resultTypes.toList args else .fail
def fnOf (P:Program) (f:FuncId):Option Func:=nth P.funcs.toList f
def bodyOf (P:Program) (f:FuncId):Option (Func × Option Code):=match fnOf P f with | some fn=>some (fn,fn.body) | none=>none
def callFn (P:Program) (w:AW) (f:FuncId) (args:List Value):R :=
 match bodyOf P f with
 | none=>.fail
 | some p=>match p.2 with
  | some _=>.enter f args w
  | none=>externA P w p.1 args
def intV (n:Nat):Value:=.int .i64 (.ofNat n)
def entriesA (w:AW) (r:Nat):Option (List MapEntry × Nat) :=
 match w.heap.get r with
 | some o=>match o with
  | .map es c=>some (es,c)
  | _=>none
 | none=>none
def lenOfMap (w:AW) (r:Nat):R:=match entriesA w r with | some p=>.val (intV (lenL p.1 0)) w | none=>.fail
def arrN (P:Program) (t:TypeId):Option (Nat × TypeId):=match P.underlying t with | some (.array n e)=>some (n,e) | _=>none
def lenB (P:Program) (w:AW) (t:TypeId) (x:Value):R :=
 match P.underlying t with
 | some (.slice _)=>match x with
  | .slice _ n _=>.val (intV n) w
  | _=>.fail
 | some .string=>match x with
  | .string s=>.val (intV (lenL (bytesOf s) 0)) w
  | _=>.fail
 | some (.map _ _)=>match x with
  | .map r=>match r with | none=>.val (intV 0) w | some r=>lenOfMap w r
  | _=>.fail
 | some (.array n _)=>.val (intV n) w
 | some (.pointer a)=>match arrN P a with | some p=>.val (intV p.1) w | none=>.fail
 | _=>.fail
def len1 (P:Program) (w:AW) (ts:List TypeId) (args:List Value):R :=
 match ts with
 | t::_=>match args with
  | x::_=>lenB P w t x
  | []=>.fail
 | []=>.fail
def copyTo (w:AW) (base:Option Addr) (k size:Nat) (cs:List Value):R :=
 match base with
 | some a=>bif Nat.beq k 0 then .val (intV 0) w else wR (wr w a.block a.off (takeL (k * size) cs)) (intV k)
 | none=>.val (intV 0) w
def minN (a b:Nat):Nat:=bif Nat.ble a b then a else b
def copyV (P:Program) (w:AW) (t:TypeId) (d x:Value):R :=
 match d with
 | .slice base n _ =>
  match elemA P t with
  | none=>.fail
  | some e=>match szOf P e with
   | none=>.fail
   | some size=>match lenA x with
    | none=>.fail
    | some m=>match srcCells w size x with
     | none=>.fail
     | some cs=>bif Nat.beq (lenL cs 0) (m * size) then copyTo w base (minN m n) size cs else .fail
 | _=>.fail
def leastB (k:IntKind) (a:Int):List Value→Option Value
 | []=>some (.int k a)
 | v::l=>match v with | .int _ b=>leastB k (bif intLt b a then b else a) l | _=>none
def mostB (k:IntKind) (a:Int):List Value→Option Value
 | []=>some (.int k a)
 | v::l=>match v with | .int _ b=>mostB k (bif intLt a b then b else a) l | _=>none
def minB (w:AW) (args:List Value):R :=
 match args with
 | v::l=>match v with | .int k a=>vR w (leastB k a l) | _=>.fail
 | []=>.fail
def maxB (w:AW) (args:List Value):R :=
 match args with
 | v::l=>match v with | .int k a=>vR w (mostB k a l) | _=>.fail
 | []=>.fail
def panicB (w:AW) (x:Value):R :=
 match x with
 | .iface _ _=>.panic x w
 | _=>.fail
def sliceDataB (w:AW) (x:Value):R :=
 match x with
 | .slice a _ c=>match a with | none=>.val (.pointer none) w | some a=>bif Nat.beq c 0 then .fail else .val (.pointer (some a)) w
 | _=>.fail
def byteT (P:Program) (t:TypeId):Option TypeId :=
 match P.underlying t with
 | some (.pointer e)=>bif sz1 P e then some e else none
 | _=>none
def freezeO (w:AW) (a:Addr) (n:Nat) (c:List Value) (e:TypeId):R :=
 bif Nat.ble w.lim a.block && Nat.ble (a.off + n) (lenL c 0) then strR (w.set a.block (some (.cells c e true))) (some (takeL n (dropL a.off c))) else .fail
def freezeA (w:AW) (a:Addr) (n:Nat) (e:TypeId):R :=
 match w.heap.get a.block with
 | some o=>match o with
  | .cells c e' _=>bif Nat.beq e e' then freezeO w a n c e else .fail
  | _=>.fail
 | none=>.fail
def stringC (P:Program) (w:AW) (t:TypeId) (p:Option Addr) (n:Nat):R :=
 bif Nat.ble n 1000000 then (match p with
  | none=>bif Nat.beq n 0 then .val (.string ⟨#[]⟩) w else .fail
  | some a=>bif Nat.beq n 0 then .val (.string ⟨#[]⟩) w else match byteT P t with | some e=>freezeA w a n e | none=>.fail) else .fail
def stringB (P:Program) (w:AW) (t:TypeId) (p n:Value):R :=
 match p with
 | .pointer p=>match n with
  | .int _ n=>match n with
   | .ofNat n=>stringC P w t p n
   | _=>.fail
  | _=>.fail
 | _=>.fail
def capB (P:Program) (w:AW) (t:TypeId) (x:Value):R :=
 match P.underlying t with
 | some (.slice _)=>match x with
  | .slice a _ _=>match a with | none=>.val (intV 0) w | some _=>.fail
  | _=>.fail
 | _=>.fail
def cap1 (P:Program) (w:AW) (ts:List TypeId) (args:List Value):R :=
 match ts with
 | t::_=>match args with
  | x::_=>capB P w t x
  | []=>.fail
 | []=>.fail
def copy1 (P:Program) (w:AW) (ts:List TypeId) (args:List Value):R :=
 match ts with
 | t::_=>match args with
  | d::x::_=>copyV P w t d x
  | _=>.fail
 | []=>.fail
def panic1 (w:AW) (args:List Value):R :=
 match args with
 | x::_=>panicB w x
 | []=>.fail
def sliceData1 (w:AW) (args:List Value):R :=
 match args with
 | [x]=>sliceDataB w x
 | _=>.fail
def string1 (P:Program) (w:AW) (ts:List TypeId) (args:List Value):R :=
 match ts with
 | t::_=>match args with
  | [p,n]=>stringB P w t p n
  | _=>.fail
 | []=>.fail
def builtinA (P:Program) (w:AW) (b:Builtin) (ts:Array TypeId) (ty:TypeId) (args:List Value):R :=
 match b with
 | .len=>len1 P w ts.toList args
 | .cap=>cap1 P w ts.toList args
 | .append=>append1 P w ts.toList args
 | .copy=>copy1 P w ts.toList args
 | .clear=>clear1 P w ts.toList args
 | .min=>minB w args
 | .max=>maxB w args
 | .panic=>panic1 w args
 | .recover=>.recover w
 | .unsafeSliceData=>sliceData1 w args
 | .unsafeString=>string1 P w ts.toList args
 | _=>.fail
def ldA (P:Program) (w:AW) (t:TypeId) (a:Addr):Option Value :=
 match aggOf P t with
 | some b=>bif b then (match szOf P t with
  | some n=>match rd w a.block a.off n with | some cs=>some (.agg ⟨cs⟩) | none=>none
  | none=>none) else rd1 w a.block a.off
 | none=>none
def isIface (P:Program) (t:TypeId):Option Bool:=match P.underlying t with | some (.interface _)=>some true | some _=>some false | none=>none
def fnA (P:Program) (w:AW) (fn:Fn) (cap:List Value) (args:List Value):R :=
 match fn with
 | .func f=>callFn P w f (appL args cap)
 | .yield l=>.yield l args w
 | _=>.fail
def invokeA (P:Program) (w:AW) (t:Target) (args:List Value):R :=
 match t with
 | .fn fn cap=>fnA P w fn cap.toList args
 | _=>.fail
def callV (P:Program) (w:AW) (f:Value) (args:List Value):R :=
 match f with
 | .func fn first cap=>fnA P w fn cap.toList (appL first.toList args)
 | _=>.fail
def findM (name:String):List Method→Option Method
 | []=>none
 | m::l=>bif m.name == name then some m else findM name l
def isPtrT (P:Program) (t:TypeId):Option Bool:=match P.underlying t with | some (.pointer _)=>some true | some _=>some false | none=>none
def methF (P:Program) (t:TypeId) (m:Method):Option FuncId :=
 match m.func with
 | some p=>match isPtrT P t with
  | some b=>bif m.path.toList.isEmpty && p.2 == b then some p.1 else none
  | none=>none
 | none=>none
def methA (P:Program) (t:TypeId) (name:String):Option FuncId :=
 match P.info? t with
 | some i=>match findM name i.methods.toList with
  | some m=>methF P t m
  | none=>none
 | none=>none
def callM (P:Program) (w:AW) (recv:Value) (name:String) (args:List Value):R :=
 match recv with
 | .iface t v=>match methA P t name with
  | some f=>callFn P w f (v::args)
  | none=>.fail
 | _=>.fail
def deferV (w:AW) (f:Value) (args:List Value):R :=
 match f with
 | .func fn first cap=>.defer { target:=.fn fn cap,args:=⟨appL first.toList args⟩ } w
 | _=>.fail
def pickA (w:AW) (c a b:Value):R:=match c with | .bool c=>.val (bif c then a else b) w | _=>.fail
def allocA (P:Program) (w:AW) (e:TypeId):R :=
 match zeroA P e with
 | some z=>newR w (.cells (cellsOf z) e false) ptrV
 | none=>.fail
def fieldAt (P:Program) (fs:List Field) (i:Nat):Option (Nat × Nat) :=
 match nth fs i with
 | some f=>match szOf P f.type with | some n=>some (f.offset,n) | none=>none
 | none=>none
def rowAt (n:Nat) (i:Nat):Option (Nat × Nat):=some (i * n,n)
def aggR (w:AW) (cs:Option (List Value)):R:=match cs with | some cs=>.val (.agg ⟨cs⟩) w | none=>.fail
def placeOf (P:Program) (t:TypeId):Option (Nat→Option (Nat × Nat)) :=
 match P.underlying t with
 | some (.struct fs)=>bif fs.toList.all (fun f=>(szOf P f.type).isSome) then some (fieldAt P fs.toList) else none
 | some (.array _ e)=>match szOf P e with
  | some n=>some (rowAt n)
  | none=>none
 | _=>none
def buildA (P:Program) (w:AW) (t:TypeId) (parts:List (Nat × Value)):R :=
 match zeroA P t with
 | none=>.fail
 | some z=>match placeOf P t with
  | none=>.fail
  | some p=>aggR w (fillA p (cellsOf z) parts)
def rowR (w:AW) (e:TypeId) (len:Nat) (cs:Option (List Value)):R:=match cs with | some cs=>newR w (.cells cs e false) (litV len) | none=>.fail
def buildSliceA (P:Program) (w:AW) (t:TypeId) (len:Nat) (parts:List (Nat × Value)):R :=
 match elemA P t with
 | none=>.fail
 | some e=>match szOf P e with
  | none=>.fail
  | some size=>match zeroA P e with
   | none=>.fail
   | some z=>bif Nat.ble (len * size) 1000000 then rowR w e len (fillA (rowAt size) (repl (cellsOf z) len) parts) else .fail
def loadA (P:Program) (w:AW) (t:TypeId) (a:Value):R :=
 match a with
 | .pointer a=>match a with
  | some a=>vR w (ldA P w t a)
  | none=>.fail
 | _=>.fail
def storeB (w:AW) (a:Addr) (cs:List Value):R:=wR (wr w a.block a.off cs) undef
def storeA (P:Program) (w:AW) (t:TypeId) (a x:Value):R :=
 match a with
 | .pointer a=>match a with
  | some a=>bif (match szOf P t with | some n=>Nat.beq (lenL (cellsOf x) 0) n | none=>false) then storeB w a (cellsOf x) else .fail
  | none=>.fail
 | _=>.fail
def nilV (P:Program):Value:=.iface P.rt.errorString (strVal "invalid memory address or nil pointer dereference")
def nilCheckA (P:Program) (w:AW) (x:Value):R :=
 match x with
 | .pointer a=>match a with | none=>.panic (nilV P) w | some a=>.val (.pointer (some a)) w
 | .nilIface=>.panic (nilV P) w
 | .nilFunc=>.panic (nilV P) w
 | .func fn a b=>match fn with
  | .method _=>.fail
  | fn=>.val (.func fn a b) w
 | .iface t v=>.val (.iface t v) w
 | _=>.fail
def notA (x:Value):Option Value:=match x with | .bool b=>some (.bool (!b)) | _=>none
def negA (x:Value):Option Value:=match x with | .int k n=>some (.int k (wrapA k (0 - n))) | _=>none
def cplA (x:Value):Option Value:=match x with | .int k n=>some (.int k (wrapA k (BitVec.ofInt k.bits (if k.signed then -1 else k.max) ^^^ BitVec.ofInt k.bits n).toNat)) | _=>none
def noneA (_:Value):Option Value:=none
def unS (op:UnOp):Value→Option Value :=
 match op with
 | .not=>notA
 | .neg=>negA
 | .xor=>cplA
 | .plus=>noneA
def bytesToStr (w:AW) (x:Value):R :=
 match x with
 | .slice a n _=>match a with
  | none=>.val (.string ⟨#[]⟩) w
  | some a=>strR w (rd w a.block a.off n)
 | _=>.fail
def isByte (P:Program) (e:TypeId):Bool:=match P.underlying e with | some (.int .u8)=>sz1 P e | _=>false
def strToBytes (P:Program) (w:AW) (e:TypeId) (s:ByteArray):R :=
 bif isByte P e then newR w (.cells (mapL byteV (bytesOf s)) e false) (rowV (lenL (bytesOf s) 0)) else .fail
def convInt (w:AW) (k:IntKind) (x:Value):R :=
 match x with
 | .int _ n=>.val (.int k (wrapA k n)) w
 | _=>.fail
def convRow (P:Program) (w:AW) (sd:TypeDesc) (x:Value):R :=
 match sd with
 | .slice e=>bif isByte P e then bytesToStr w x else .fail
 | _=>.fail
def convStr (P:Program) (w:AW) (sd:TypeDesc) (x:Value):R :=
 match x with
 | .string b=>.val (.string b) w
 | .int _ n=>.val (.string (Utf8.encode n)) w
 | .slice a n c=>convRow P w sd (.slice a n c)
 | _=>.fail
def convSlice (P:Program) (w:AW) (e:TypeId) (x:Value):R :=
 match x with
 | .string s=>strToBytes P w e s
 | _=>.fail
def has1 (P:Program) (u:TypeId) (n:Nat):Bool:=match szOf P u with | some m=>Nat.blt 0 m && Nat.ble m n | none=>false
def convPtrA (P:Program) (w:AW) (t:TypeId) (x:Value):R :=
 match x with
 | .pointer a=>match a with
  | none=>.val (.pointer none) w
  | some a=>match cellsAt w a.block with
   | some c=>bif has1 P t (lenL c 0 - a.off) then .val (.pointer (some a)) w else .fail
   | none=>.fail
 | _=>.fail
def convPtrC (P:Program) (w:AW) (u:TypeId) (a:Addr) (o:Option AObj):R :=
 match o with
 | some o=>match o with
  | .cells c e ro=>bif Nat.beq e u && (Nat.beq a.off 0 && (has1 P u (lenL c 0) && !ro)) then .val (.pointer (some a)) w else .fail
  | _=>.fail
 | none=>.fail
def convPtrB (P:Program) (w:AW) (u:TypeId) (x:Value):R :=
 match x with
 | .pointer a=>match a with
  | none=>.val (.pointer none) w
  | some a=>convPtrC P w u a (w.heap.get a.block)
 | _=>.fail
def convTo (P:Program) (w:AW) (sd dd:TypeDesc) (x:Value):R :=
 match dd with
 | .int k=>convInt w k x
 | .string=>convStr P w sd x
 | .slice e=>convSlice P w e x
 | .unsafePointer=>match sd with | .pointer t=>convPtrA P w t x | _=>.fail
 | .pointer u=>match sd with | .unsafePointer=>convPtrB P w u x | _=>.fail
 | _=>.fail
def convertA (P:Program) (w:AW) (s d:TypeId) (x:Value):R :=
 match P.underlying s with
 | some sd=>match P.underlying d with
  | some dd=>convTo P w sd dd x
  | none=>.fail
 | none=>.fail
def capV (l c b:Nat):Value:=.slice (some ⟨b,0,none⟩) l c
def makeSliceB (P:Program) (w:AW) (e:TypeId) (l c:Nat):R :=
 match zeroA P e with
 | some z=>bif Nat.ble l c && (Nat.ble c 1000000 && smallT P e) then newR w (.cells (repl (cellsOf z) c) e false) (capV l c) else .fail
 | none=>.fail
def natA (x:Value):Option Nat :=
 match x with
 | .int _ n=>match n with | .ofNat n=>some n | _=>none
 | _=>none
def makeSliceA (P:Program) (w:AW) (t:TypeId) (l c:Value):R :=
 match elemA P t with
 | none=>.fail
 | some e=>match natA l with
  | none=>.fail
  | some l=>match natA c with
   | none=>.fail
   | some c=>makeSliceB P w e l c
def sliceStr (w:AW) (l:List UInt8) (n:Nat) (lo hi:Option Value):R :=
 match boundA hi n n with
 | none=>.fail
 | some h=>match boundA lo h 0 with
  | none=>.fail
  | some lo=>.val (.string ⟨⟨dropL lo (takeL h l)⟩⟩) w
def rowElem (w:AW) (b:Nat):Option TypeId :=
 match w.heap.get b with
 | some o=>match o with
  | .cells _ e _=>some e
  | _=>none
 | none=>none
def cutAddr (w:AW) (e:TypeId) (a:Addr) (l size:Nat) (x:Bool):Option Addr :=
 match rowElem w a.block with
 | some e'=>some ⟨a.block,a.off + l * size,bif x then some 2 else bif Nat.beq e e' && a.spot.isNone then none else some 1⟩
 | none=>bif x then none else some ⟨a.block,a.off + l * size,some 1⟩
def cutR (w:AW) (h l m:Nat) (a:Option Addr):R :=
 match a with
 | some a=>.val (.slice (some a) (h - l) (m - l)) w
 | none=>.fail
def sliceRow (w:AW) (e:TypeId) (a:Option Addr) (n cap size:Nat) (lo hi mx:Option Value):R :=
 match boundA mx cap cap with
 | none=>.fail
 | some m=>match boundA hi m n with
  | none=>.fail
  | some h=>match boundA lo h 0 with
   | none=>.fail
   | some l=>match a with
    | none=>.val (.slice none 0 0) w
    | some a=>cutR w h l m (cutAddr w e a l size mx.isSome)
def sliceArr (w:AW) (a:Addr) (n size:Nat) (lo hi mx:Option Value):R :=
 match boundA mx n n with
 | none=>.fail
 | some m=>match boundA hi m n with
  | none=>.fail
  | some h=>match boundA lo h 0 with
   | none=>.fail
   | some l=>.val (.slice (some ⟨a.block,a.off + l * size,some 1⟩) (h - l) (m - l)) w
def sliceB1 (hi mx:Option Value):Bool:=!(hi.isNone && !mx.isNone)
def sliceA (P:Program) (w:AW) (t:TypeId) (x:Value) (lo hi mx:Option Value):R :=
 bif sliceB1 hi mx then (match x with
 | .string s=>match P.underlying t with
  | some .string=>bif mx.isNone then sliceStr w (bytesOf s) (lenL (bytesOf s) 0) lo hi else .fail
  | _=>.fail
 | .slice a n cap=>match elemA P t with
  | none=>.fail
  | some e=>match szOf P e with
   | none=>.fail
   | some size=>sliceRow w e a n cap size lo hi mx
 | .pointer a=>match a with
  | none=>.fail
  | some a=>match arrN P t with
   | some p=>match szOf P p.2 with
    | none=>.fail
    | some size=>sliceArr w a p.1 size lo hi mx
   | none=>.fail
 | _=>.fail) else .fail
def fieldOf (P:Program) (t:TypeId) (f:Nat):Option Field :=
 match P.underlying t with
 | some (.struct fs)=>nth fs.toList f
 | _=>none
def fieldAddrA (P:Program) (w:AW) (s:TypeId) (f:Nat) (x:Value):R :=
 match x with
 | .pointer a=>match a with
  | none=>.fail
  | some a=>match fieldOf P s f with
   | some f=>bif (match szOf P f.type with | some (_ + 1)=>true | _=>false) then .val (.pointer (some (a.add f.offset))) w else .fail
   | none=>.fail
 | _=>.fail
def fieldA (P:Program) (w:AW) (t:TypeId) (f:Nat) (x:Value):R :=
 match x with
 | .agg cs=>match fieldOf P t f with
  | some f=>vR w (partA P f.type cs.toList f.offset)
  | none=>.fail
 | _=>.fail
def idxIn (i:Int) (n:Nat):Option Nat :=
 match i with
 | .ofNat i=>bif Nat.blt i n then some i else none
 | _=>none
def indexAddrB (P:Program) (w:AW) (a:Addr) (n:Nat) (e:TypeId) (i:Int):R :=
 match idxIn i n with
 | none=>.panic (boundsP P i n) w
 | some i=>match szOf P e with
  | some size=>.val (.pointer (some (a.add (i * size)))) w
  | none=>.fail
def indexAddrC (P:Program) (w:AW) (t:TypeId) (x:Value) (i:Int):R :=
 match x with
 | .pointer a=>match a with
  | none=>.fail
  | some a=>match arrN P t with
   | some p=>bif Nat.ble p.1 1 then .fail else indexAddrB P w a p.1 p.2 i
   | none=>.fail
 | .slice a n _=>match elemA P t with
  | none=>.fail
  | some e=>match a with
   | some a=>indexAddrB P w a n e i
   | none=>.panic (boundsP P i 0) w
 | _=>.fail
def indexAddrA (P:Program) (w:AW) (t:TypeId) (x ix:Value):R :=
 match ix with
 | .int _ i=>indexAddrC P w t x i
 | _=>.fail
def indexArr (P:Program) (w:AW) (t:TypeId) (cs:List Value) (i:Int):R :=
 match arrN P t with
 | some p=>match idxIn i p.1 with
  | none=>.panic (boundsP P i p.1) w
  | some i=>match szOf P p.2 with
   | some size=>vR w (partA P p.2 cs (i * size))
   | none=>.fail
 | _=>.fail
def indexStr (P:Program) (w:AW) (l:List UInt8) (i:Int):R :=
 match i with
 | .ofNat k=>match nth l k with
  | some b=>.val (byteV b) w
  | none=>.panic (boundsP P i (lenL l 0)) w
 | _=>.panic (boundsP P i (lenL l 0)) w
def indexA (P:Program) (w:AW) (t:TypeId) (x ix:Value):R :=
 match ix with
 | .int _ i=>match x with
  | .agg cs=>indexArr P w t cs.toList i
  | .string s=>match P.underlying t with | some .string=>indexStr P w (bytesOf s) i | _=>.fail
  | _=>.fail
 | _=>.fail
def keyFits (kt:KeyT) (k:Value):Bool:=match flatCells kt.1 k with | some cs=>Nat.beq (lenL cs 0) (lenL kt.2 0) | none=>false
def keyOf (P:Program) (k:TypeId):Option KeyT :=
 match flatT P 8 k with
 | some ks=>match aggOf P k with
  | some b=>some (b,ks)
  | none=>none
 | none=>none
def mapOf (P:Program) (t:TypeId):Option (TypeId × KeyT) :=
 match P.underlying t with
 | some (.map k e)=>match keyOf P k with
  | some kt=>some (e,kt)
  | none=>none
 | _=>none
def lookIn (w:AW) (kt:KeyT) (m k:Value):Option (Option (Nat × Value)) :=
 match m with
 | .map r=>match r with
  | none=>some none
  | some r=>match entriesA w r with | some p=>findF kt k p.1 | none=>none
 | _=>none
def lookV (ok b:Bool) (v:Value):Value:=bif ok then .tuple #[v,.bool b] else v
def lookR (P:Program) (w:AW) (e:TypeId) (ok:Bool) (r:Option (Option (Nat × Value))):R :=
 match r with
 | none=>.fail
 | some r=>match r with
  | none=>match zeroA P e with | some z=>.val (lookV ok false z) w | none=>.fail
  | some p=>.val (lookV ok true p.2) w
def lookupA (P:Program) (w:AW) (t:TypeId) (m k:Value) (ok:Bool):R :=
 match mapOf P t with
 | none=>.fail
 | some p=>bif keyFits p.2 k then lookR P w p.1 ok (lookIn w p.2 m k) else .fail
def modVal (es:List MapEntry) (i:Nat) (v:Value):List MapEntry :=
 List.rec (motive:=fun _=>Nat→List MapEntry) (fun _=>[]) (fun e es ih i=>Nat.rec (motive:=fun _=>List MapEntry) (⟨e.key,v,e.born⟩::es) (fun i _=>e::ih i) i) es i
def setMap (w:AW) (r:Nat) (es:List MapEntry) (c:Nat) (v:Value):R:=wR (putO w r (.map es c)) v
def mapUpdateB (w:AW) (r:Nat) (es:List MapEntry) (c:Nat) (k x:Value) (f:Option (Option (Nat × Value))):R :=
 match f with
 | none=>.fail
 | some f=>match f with
  | some p=>setMap w r (modVal es p.1 x) c undef
  | none=>setMap w r (appL es [⟨k,x,c⟩]) (Nat.succ c) undef
def mapUpdateA (P:Program) (w:AW) (t:TypeId) (m k x:Value):R :=
 match mapOf P t with
 | none=>.fail
 | some q=>bif keyFits q.2 k then (match m with
  | .map r=>match r with
   | none=>.fail
   | some r=>match entriesA w r with
    | none=>.fail
    | some p=>mapUpdateB w r p.1 p.2 k x (findF q.2 k p.1)
  | _=>.fail) else .fail
def bornAt (es:List MapEntry) (i:Nat):Option Nat:=match nth es i with | some e=>some e.born | none=>none
def mapEntryB (P:Program) (w:AW) (e:TypeId) (r:Nat) (es:List MapEntry) (c:Nat) (k:Value) (f:Option (Option (Nat × Value))):R :=
 match f with
 | none=>.fail
 | some f=>match f with
  | some p=>match bornAt es p.1 with
   | some b=>setMap w r es c (.tuple ⟨[p.2,intV b]⟩)
   | none=>.fail
  | none=>match zeroA P e with
   | some z=>setMap w r (appL es [⟨k,z,c⟩]) (Nat.succ c) (.tuple ⟨[z,intV c]⟩)
   | none=>.fail
def mapEntryA (P:Program) (w:AW) (t:TypeId) (m k:Value):R :=
 match mapOf P t with
 | none=>.fail
 | some q=>bif keyFits q.2 k then (match m with
  | .map r=>match r with
   | none=>.fail
   | some r=>match entriesA w r with
    | none=>.fail
    | some p=>mapEntryB P w q.1 r p.1 p.2 k (findF q.2 k p.1)
  | _=>.fail) else .fail
def findBorn (b:Nat) (es:List MapEntry):Nat→Option Nat :=
 List.rec (motive:=fun _=>Nat→Option Nat) (fun _=>none) (fun e _ ih i=>Bool.rec (motive:=fun _=>Option Nat) (ih (Nat.succ i)) (some i) (Nat.beq e.born b)) es
def entryStoreB (w:AW) (r:Nat) (es:List MapEntry) (c:Nat) (x:Value) (i:Option Nat):R :=
 match i with
 | none=>.fail
 | some i=>setMap w r (modVal es i x) c undef
def entryStoreA (w:AW) (m s x:Value):R :=
 match m with
 | .map r=>match r with
  | none=>.fail
  | some r=>match natA s with
   | none=>.fail
   | some b=>match entriesA w r with
    | none=>.fail
    | some p=>entryStoreB w r p.1 p.2 x (findBorn b p.1 0)
 | _=>.fail
def rangeMap (w:AW) (m:Option Nat):R :=
 match m with
 | none=>newR w (.miter none 0 [] 0) ptrV
 | some r=>match entriesA w r with
  | some p=>newR w (.miter (some r) p.2 [] p.2) ptrV
  | none=>.fail
def rangeA (P:Program) (w:AW) (t:TypeId) (x:Value):R :=
 match x with
 | .string s=>match P.underlying t with | some .string=>newR w (.siter s 0) ptrV | _=>.fail
 | .map m=>match P.underlying t with | some (.map _ _)=>rangeMap w m | _=>.fail
 | _=>.fail
def nextStr (w:AW) (b:Nat) (s:ByteArray) (pos:Nat):R :=
 bif Nat.blt pos (lenL (bytesOf s) 0) then wR (putO w b (.siter s (pos + (Utf8.decode s pos).2))) (.tuple #[.bool true,intV pos,.int .i32 (Utf8.decode s pos).1])
 else .val (.tuple #[.bool false]) w
def seenB (b:Nat):List Nat→Bool
 | []=>false
 | n::l=>bif Nat.beq n b then true else seenB b l
def leftA (seen:List Nat):List MapEntry→List MapEntry
 | []=>[]
 | e::es=>bif seenB e.born seen then leftA seen es else e::leftA seen es
def allLate (last:Nat):List MapEntry→Bool
 | []=>true
 | e::es=>bif Nat.ble last e.born then allLate last es else false
def nilL {α:Type} (l:List α):Bool:=match l with | []=>true | _=>false
def nextMapE (w:AW) (b m since:Nat) (seen:List Nat) (c:Nat) (l:List MapEntry):R :=
 match l with
 | []=>.val (.tuple #[.bool false]) w
 | e::l=>match l with
  | []=>bif Nat.blt e.born since then wR (putO w b (.miter (some m) since (appL seen [e.born]) c)) (.tuple #[.bool true,e.key,e.val]) else .fail
  | _=>.fail
def nextMapB (w:AW) (b m since:Nat) (seen:List Nat) (last:Nat) (p:Option (List MapEntry × Nat)):R :=
 match p with
 | none=>.fail
 | some p=>bif nilL seen || (nilL p.1 || !allLate last p.1) then nextMapE w b m since seen p.2 (leftA seen p.1) else .fail
def nextMap (w:AW) (b:Nat) (m:Option Nat) (since:Nat) (seen:List Nat) (last:Nat):R :=
 match m with
 | none=>.val (.tuple #[.bool false]) w
 | some m=>nextMapB w b m since seen last (entriesA w m)
def nextA (w:AW) (str:Bool) (it:Value):R :=
 match it with
 | .pointer a=>match a with
  | none=>.fail
  | some a=>match w.heap.get a.block with
   | some o=>match o with
    | .siter s pos=>bif str && Nat.beq a.off 0 then nextStr w a.block s pos else .fail
    | .miter m since seen last=>bif !str && Nat.beq a.off 0 then nextMap w a.block m since seen last else .fail
    | _=>.fail
   | none=>.fail
 | _=>.fail
def lastN:List Nat→Option Nat
 | []=>none
 | n::l=>match l with | []=>some n | m::k=>lastN (m::k)
def findStamp (b:Nat):List MapEntry→Option MapEntry
 | []=>none
 | e::es=>bif Nat.beq e.born b then some e else findStamp b es
def entryC (w:AW) (e:Option MapEntry):R :=
 match e with
 | some e=>.val (.tuple #[e.key,e.val]) w
 | none=>.fail
def entryB (w:AW) (last:Nat) (b:Option Nat) (p:Option (List MapEntry × Nat)):R :=
 match b with
 | none=>.fail
 | some b=>match p with
  | none=>.fail
  | some p=>bif Nat.beq p.2 last then entryC w (findStamp b p.1) else .fail
def entryM (w:AW) (m:Option Nat) (seen:List Nat) (last:Nat):R :=
 match m with
 | none=>.fail
 | some m=>entryB w last (lastN seen) (entriesA w m)
def entryA (w:AW) (it:Value):R :=
 match it with
 | .pointer a=>match a with
  | none=>.fail
  | some a=>match w.heap.get a.block with
   | some o=>match o with
    | .miter m _ seen last=>bif Nat.beq a.off 0 then entryM w m seen last else .fail
    | _=>.fail
   | none=>.fail
 | _=>.fail
def assertFails (P:Program) (w:AW) (t:TypeId) (ok:Bool):R :=
 bif ok then (match zeroA P t with | some z=>.val (.tuple #[z,.bool false]) w | none=>.fail) else .fail
def typeAssertA (P:Program) (w:AW) (t:TypeId) (ok:Bool) (x:Value):R :=
 match isIface P t with
 | some b=>bif b then .fail else match x with
  | .iface d y=>bif Nat.beq d t then .val (lookV ok true y) w else assertFails P w t ok
  | .nilIface=>assertFails P w t ok
  | _=>.fail
 | none=>.fail
def extractA (w:AW) (x:Value) (i:Nat):R :=
 match x with
 | .tuple vs=>vR w (nth vs.toList i)
 | _=>.fail
def boxA (w:AW) (e:TypeId) (x:Value):R:=newR w (.cells (cellsOf x) e false) ptrV
def mapV (b:Nat):Value:=.map (some b)
def makeMapA (w:AW):R:=newR w (.map [] 0) mapV
def ifaceA (P:Program) (w:AW) (t:TypeId) (x:Value):R:=match isIface P t with | some b=>bif b then .fail else .val (.iface t x) w | none=>.fail
def isConst (x:Operand):Bool:=match x with | .const _=>true | _=>false
def evS (x:Operand):Box (Tm→Value) :=
 match x with
 | .tmp n=>⟨(getS 16 n).val⟩
 | .const v=>⟨fun _=>v⟩
 | .global g=>⟨fun _=>.pointer (some ⟨g,0,none⟩)⟩
 | .func f=>⟨fun _=>.func (.func f) #[] #[]⟩
def evL:List Operand→Box (Tm→List Value)
 | []=>⟨fun _=>[]⟩
 | x::l=>⟨fun t=>(evS x).val t::(evL l).val t⟩
def evP:List (Nat × Operand)→Box (Tm→List (Nat × Value))
 | []=>⟨fun _=>[]⟩
 | p::l=>⟨fun t=>(p.1,(evS p.2).val t)::(evP l).val t⟩
def evO (x:Option Operand):Box (Tm→Option Value) :=
 match x with
 | none=>⟨fun _=>none⟩
 | some x=>⟨fun t=>some ((evS x).val t)⟩
abbrev OpF:=Tm→AW→R
def callS (P:Program) (c:Call) (ty:TypeId):Box OpF :=
 match c.callee with
 | .builtin b=>⟨fun t w=>builtinA P w b c.argTypes ty ((evL c.args.toList).val t)⟩
 | .invoke recv name=>⟨fun t w=>callM P w ((evS recv).val t) name ((evL c.args.toList).val t)⟩
 | .value f=>⟨fun t w=>callV P w ((evS f).val t) ((evL c.args.toList).val t)⟩
def deferS (c:Call):Box OpF :=
 match c.callee with
 | .value f=>⟨fun t w=>deferV w ((evS f).val t) ((evL c.args.toList).val t)⟩
 | _=>⟨fun _ _=>.fail⟩
def opS (P:Program) (ty:TypeId) (o:Op):Box OpF :=
 match o with
 | .move x=>⟨fun t w=>.val ((evS x).val t) w⟩
 | .assign x=>⟨fun t w=>.val ((evS x).val t) w⟩
 | .pick c a b=>⟨fun t w=>pickA w ((evS c).val t) ((evS a).val t) ((evS b).val t)⟩
 | .alloc e=>⟨fun _ w=>allocA P w e⟩
 | .box e x=>⟨fun t w=>boxA w e ((evS x).val t)⟩
 | .build ty parts=>⟨fun t w=>buildA P w ty ((evP parts.toList).val t)⟩
 | .buildSlice ty len parts=>⟨fun t w=>buildSliceA P w ty len ((evP parts.toList).val t)⟩
 | .load ty a=>⟨fun t w=>loadA P w ty ((evS a).val t)⟩
 | .store ty a x=>⟨fun t w=>storeA P w ty ((evS a).val t) ((evS x).val t)⟩
 | .nilCheck x=>⟨fun t w=>nilCheckA P w ((evS x).val t)⟩
 | .binOp op ty x y _=>⟨fun t w=>(binW P op ty (isConst x || isConst y)).val ((evS x).val t) ((evS y).val t) w⟩
 | .unOp op _ x=>⟨fun t w=>vR w (unS op ((evS x).val t))⟩
 | .convert s d x=>⟨fun t w=>convertA P w s d ((evS x).val t)⟩
 | .makeInterface ty x=>⟨fun t w=>ifaceA P w ty ((evS x).val t)⟩
 | .makeFunc fn a b=>match fn with
  | .yield _=>⟨fun _ _=>.fail⟩
  | fn=>⟨fun t w=>.val (.func fn ⟨(evL a.toList).val t⟩ ⟨(evL b.toList).val t⟩) w⟩
 | .makeMap _ r=>match r with
  | none=>⟨fun _ w=>makeMapA w⟩
  | some _=>⟨fun _ _=>.fail⟩
 | .makeSlice ty l c=>⟨fun t w=>makeSliceA P w ty ((evS l).val t) ((evS c).val t)⟩
 | .slice ty x lo hi mx=>⟨fun t w=>sliceA P w ty ((evS x).val t) ((evO lo).val t) ((evO hi).val t) ((evO mx).val t)⟩
 | .fieldAddr s x f=>⟨fun t w=>fieldAddrA P w s f ((evS x).val t)⟩
 | .field s x f=>⟨fun t w=>fieldA P w s f ((evS x).val t)⟩
 | .indexAddr ty x ix=>⟨fun t w=>indexAddrA P w ty ((evS x).val t) ((evS ix).val t)⟩
 | .index ty x ix=>⟨fun t w=>indexA P w ty ((evS x).val t) ((evS ix).val t)⟩
 | .lookup ty x k ok=>⟨fun t w=>lookupA P w ty ((evS x).val t) ((evS k).val t) ok⟩
 | .mapUpdate ty m k x=>⟨fun t w=>mapUpdateA P w ty ((evS m).val t) ((evS k).val t) ((evS x).val t)⟩
 | .insert ty m k x=>⟨fun t w=>mapUpdateA P w ty ((evS m).val t) ((evS k).val t) ((evS x).val t)⟩
 | .mapEntry ty m k=>⟨fun t w=>mapEntryA P w ty ((evS m).val t) ((evS k).val t)⟩
 | .entryStore _ m s x=>⟨fun t w=>entryStoreA w ((evS m).val t) ((evS s).val t) ((evS x).val t)⟩
 | .range ty x=>⟨fun t w=>rangeA P w ty ((evS x).val t)⟩
 | .next it str=>⟨fun t w=>nextA w str ((evS it).val t)⟩
 | .entry it=>⟨fun t w=>entryA w ((evS it).val t)⟩
 | .typeAssert x _ ty ok=>⟨fun t w=>typeAssertA P w ty ok ((evS x).val t)⟩
 | .extract x i=>⟨fun t w=>extractA w ((evS x).val t) i⟩
 | .call c=>callS P c ty
 | .defer c=>deferS c
 | .panic x=>⟨fun t w=>panicB w ((evS x).val t)⟩
 | _=>⟨fun _ _=>.fail⟩
inductive RC where
 | fail
 | ok (ex:Ex) (t:Tm) (ds:List Deferred) (w:AW) (x:Ctx)
inductive RO where
 | fail
 | ok (o:Out) (w:AW) (x:Ctx)
abbrev CodeF:=Tm→List Deferred→AW→Ctx→RC
structure Rec where
 code:Nat→Code→CodeF
 call:FuncId→List Value→AW→Ctx→RO
def dstOk (n:Nat) (d:Option Tmp):Bool:=match d with | some d=>Nat.blt d n && Nat.ble n 60000 | none=>true
def putDst (d:Option Tmp):Box (Value→Tm→Tm) :=
 match d with
 | some d=>⟨(setS 16 d).val⟩
 | none=>⟨fun _ t=>t⟩
def isB (want:Bool) (v:Value):Option Bool :=
 match v with
 | .bool b=>some (b == want)
 | .chan _=>none
 | _=>some false
def guardS (all:List Oper) (g:Option (Nat × Bool)):Box (Tm→Option Bool) :=
 match g with
 | none=>⟨fun _=>some true⟩
 | some p=>match nth all p.1 with
  | none=>⟨fun _=>none⟩
  | some o=>match o.dst with
   | none=>⟨fun _=>none⟩
   | some d=>⟨fun t=>isB p.2 ((getS 16 d).val t)⟩
def loopAt (w:AW) (l:Nat):Option ALoop :=
 match w.heap.get l with
 | some o=>match o with
  | .loop lp=>some lp
  | _=>none
 | none=>none
def setParams:List Tmp→List Value→Tm→Tm
 | p::ps,a::as,t=>setParams ps as ((setS 16 p).val a t)
 | _,_,t=>t
def jumpOf (ex:Ex):Option (Option Code) :=
 match ex with
 | .normal=>some none
 | .exit id=>some (some (.exit id))
 | .ret=>some (some .ret)
 | .panic _=>none
def seqK (k:CodeF) (x:RC):RC :=
 match x with
 | .fail=>.fail
 | .ok ex t ds w x=>match ex with
  | .normal=>k t ds w x
  | ex=>.ok ex t ds w x
inductive YR where
 | fail
 | val (b:Bool) (w:AW)
 | panic (v:Value) (w:AW)
def isReady (s:LoopState):Bool:=match s with | .ready=>true | _=>false
def yieldE (l:Nat) (w:AW) (j:Option Code) (lp:Option ALoop):YR :=
 match lp with
 | none=>.fail
 | some lp=>match putO w l (.loop ⟨lp.n,lp.tmps,lp.params,lp.assign,lp.body,j,bif j.isNone then .ready else .done⟩) with
  | some w=>.val j.isNone w
  | none=>.fail
def yieldF (l:Nat) (x:RC):YR :=
 match x with
 | .fail=>.fail
 | .ok ex _ ds w _=>match ex with
  | .panic v=>match ds with | []=>.panic v w | _=>.fail
  | ex=>match jumpOf ex with
   | none=>.fail
   | some j=>match ds with | []=>yieldE l w j (loopAt w l) | _=>.fail
def busyA (lp:ALoop):AObj:=.loop ⟨lp.n,lp.tmps,lp.params,lp.assign,lp.body,lp.pending,.busy⟩
def yieldH (F:CodeF) (t:Tm) (ds:List Deferred) (x:Ctx) (w:Option AW):RC:=match w with | none=>.fail | some w=>F t ds w x
def yieldG (r:Rec) (l n:Nat) (body:Code):CodeF:=fun t ds w x =>
 match loopAt w l with
 | none=>.fail
 | some lp=>bif isReady lp.state then yieldH (r.code n body) t ds x (putO w l (busyA lp)) else .fail
def yieldB (r:Rec) (l:Nat) (args:List Value) (w:AW) (lp:Option ALoop):YR :=
 match lp with
 | none=>.fail
 | some lp=>bif Nat.beq (lenL args 0) (lenL lp.params 0) then yieldF l (seqK (yieldG r l lp.n lp.body) (r.code lp.n lp.assign (setParams lp.params args lp.tmps) [] w .round)) else .fail
def yieldA (r:Rec) (l:Nat) (args:List Value) (w:AW):YR:=yieldB r l args w (loopAt w l)
def opsO (k:CodeF) (p:Value→Tm→Tm) (t:Tm) (ds:List Deferred) (x:Ctx) (o:RO):RC :=
 match o with
 | .fail=>.fail
 | .ok out w _=>match out with
  | .ret v=>k (p v t) ds w x
  | .panic v=>.ok (.panic v) t ds w x
def opsY (k:CodeF) (p:Value→Tm→Tm) (t:Tm) (ds:List Deferred) (x:Ctx) (y:YR):RC :=
 match y with
 | .fail=>.fail
 | .val b w=>k (p (.bool b) t) ds w x
 | .panic v w=>.ok (.panic v) t ds w x
def opsV (k:CodeF) (p:Value→Tm→Tm) (t:Tm) (ds:List Deferred) (w:AW) (x:Ctx):RC :=
 match x with
 | .none=>k (p .nilIface t) ds w .none
 | .round=>.fail
 | .ret=>k (p .nilIface t) ds w .ret
 | .pan v b=>bif b then k (p .nilIface t) ds w (.pan v b) else k (p v t) ds w (.pan v true)
def isRound (x:Ctx):Bool:=match x with | .round=>true | _=>false
def opsN (r:Rec) (k:CodeF) (p:Value→Tm→Tm) (t:Tm) (ds:List Deferred) (x:Ctx) (y:R):RC :=
 match y with
 | .fail=>.fail
 | .val v w=>k (p v t) ds w x
 | .enter f args w=>opsO k p t ds x (r.call f args w .none)
 | .yield l args w=>opsY k p t ds x (yieldA r l args w)
 | .defer d w=>bif isRound x then .fail else k (p undef t) (d::ds) w x
 | .recover w=>opsV k p t ds w x
 | .panic v w=>.ok (.panic v) t ds w x
def opsG (r:Rec) (k:CodeF) (p:Value→Tm→Tm) (o:OpF) (t:Tm) (ds:List Deferred) (w:AW) (x:Ctx) (g:Option Bool):RC :=
 match g with
 | none=>.fail
 | some b=>bif b then opsN r k p t ds x (o t w) else k (p undef t) ds w x
abbrev CodeS:=Rec→CodeF
def constOk (P:Program) (x:Operand):Bool :=
 match x with
 | .const v=>groundC 3 v
 | .global g=>Nat.blt g P.globals.size
 | _=>true
def operOk (P:Program) (n:Nat) (o:Oper):Bool:=dstOk n o.dst && o.op.operands.toList.all (constOk P)
def opsS (P:Program) (n:Nat) (all:List Oper):List Oper→Box CodeS
 | []=>⟨fun _ t ds w x=>.ok .normal t ds w x⟩
 | o::rest=>bif operOk P n o then ⟨fun r t ds w x=>opsG r ((opsS P n all rest).val r) (putDst o.dst).val (opS P o.type o.op).val t ds w x ((guardS all o.guard).val t)⟩ else ⟨fun _ _ _ _ _=>.fail⟩
def sameVal:Nat→Value→Value→Bool
 | 0,_,_=>false
 | n + 1,x,y =>
  match x with
  | .int j a=>match y with | .int k b=>sameK j k && intEq a b | _=>false
  | .bool a=>match y with | .bool b=>a == b | _=>false
  | .string a=>match y with | .string b=>byteL (bytesOf a) (bytesOf b) | _=>false
  | .pointer a=>match y with | .pointer b=>a == b | _=>false
  | .slice a l c=>match y with | .slice b m d=>(a == b) && (Nat.beq l m && Nat.beq c d) | _=>false
  | .map a=>match y with | .map b=>a == b | _=>false
  | .chan a=>match y with | .chan b=>a == b | _=>false
  | .nilIface=>match y with | .nilIface=>true | _=>false
  | .nilFunc=>match y with | .nilFunc=>true | _=>false
  | .iface t v=>match y with | .iface u w=>Nat.beq t u && sameVal n v w | _=>false
  | .agg l=>match y with | .agg m=>sameVals (sameVal n) l.toList m.toList | _=>false
  | .tuple l=>match y with | .tuple m=>sameVals (sameVal n) l.toList m.toList | _=>false
  | .func f a b=>match y with | .func g c d=>(f == g) && (sameVals (sameVal n) a.toList c.toList && sameVals (sameVal n) b.toList d.toList) | _=>false
  | _=>false
where
 sameVals (s:Value→Value→Bool):List Value→List Value→Bool
  | [],[]=>true
  | x::xs,y::ys=>s x y && sameVals s xs ys
  | _,_=>false
def kindB (b:Builtin):Nat :=
 match b with
 | .len=>1
 | .cap=>0
 | .min=>0
 | .max=>0
 | .unsafeSliceData=>0
 | _=>2
def kindE (op:BinOp):Nat :=
 match op with
 | .eql=>1
 | .neq=>1
 | _=>0
def kindOf (P:Program) (o:Op):Nat :=
 match o with
 | .load ..=>1
 | .lookup ..=>1
 | .slice ..=>1
 | .move _=>0
 | .assign _=>0
 | .pick ..=>0
 | .build ..=>0
 | .nilCheck _=>0
 | .binOp op _ _ _ _=>kindE op
 | .unOp ..=>0
 | .makeInterface ..=>0
 | .makeFunc ..=>0
 | .fieldAddr ..=>0
 | .field ..=>0
 | .indexAddr ..=>0
 | .index ..=>0
 | .typeAssert ..=>0
 | .extract ..=>0
 | .convert _ d _=>match P.underlying d with | some (.int _)=>0 | _=>2
 | .alloc _=>3
 | .box ..=>3
 | .buildSlice ..=>3
 | .makeMap ..=>3
 | .makeSlice ..=>3
 | .call c=>match c.callee with
  | .builtin b=>kindB b
  | _=>2
 | _=>2
def isAct (P:Program) (o:Op):Bool:=Nat.beq (kindOf P o) 2
def bitOf (b:List Nat) (i j:Nat):Bool:=match nth b i with | some m=>m.testBit j | none=>false
def ordered (b:List Nat) (i j:Nat):Bool:=bitOf b i j || bitOf b j i
def isDst (d:Tmp) (x:Option Tmp):Bool:=match x with | some e=>Nat.beq d e | none=>false
def isTmp (d:Tmp) (x:Operand):Bool:=match x with | .tmp t=>Nat.beq t d | _=>false
def looks (all:List Oper) (o:Oper) (d:Tmp):Bool :=
 o.op.operands.toList.any (isTmp d) || (match o.guard with | some p=>(match nth all p.1 with | some q=>isDst d q.dst | none=>true) | none=>false)
def pairOk (P:Program) (all:List Oper) (b:List Nat) (p q:Oper × Nat):Bool :=
 (bif Nat.beq p.2 q.2 then (match p.1.dst with | some d=>!(Nat.beq (kindOf P p.1.op) 1 && looks all p.1 d) | none=>true) else
  (bif isAct P p.1.op && isAct P q.1.op then ordered b p.2 q.2 else true) &&
  (match p.1.dst with
  | some d=>!isDst d q.1.dst && (bif looks all q.1 d then (bif Nat.beq (kindOf P q.1.op) 1 then bitOf b q.2 p.2 else ordered b p.2 q.2) else true)
  | none=>true))
def edgesOk (seen:Nat) (es:List Edge):Bool:=es.all fun e=>!Region.binds .any e || seen.testBit e.on
def ordGo (P:Program) (all:List Oper) (b:List Nat):List Nat→Nat→List Nat→Bool
 | [],_,_=>true
 | i::rest,seen,acts =>
  match nth all i with
  | none=>false
  | some o=>(!seen.testBit i && edgesOk seen o.after.toList) && (bif isAct P o.op then ordGo P all b rest (seen ||| 2 ^ i) (i::acts) else acts.all (bitOf b i) && ordGo P all b rest (seen ||| 2 ^ i) acts)
def ordOk (P:Program) (all:List Oper) (b ord:List Nat):Bool:=Nat.beq (lenL ord 0) (lenL all 0) && ordGo P all b ord 0 []
def drawOk (P:Program) (all:List Oper) (b ord:List Nat):Bool :=
 ordOk P all b ord && (let l:=all.zipIdx; l.all fun p=>l.all fun q=>pairOk P all b p q)
def levelOf (b acts:List Nat) (i:Nat):Nat:=lenL (acts.filter (bitOf b i)) 0
def asapOf (P:Program) (all:List Oper) (b:List Nat):List Nat :=
 let l:=all.zipIdx
 let acts:=(l.filter fun p=>isAct P p.1.op).map (·.2)
 let rest:=(l.filter fun p=>!isAct P p.1.op).map (·.2)
 (List.range (lenL acts 1)).flatMap fun k=>appL (rest.filter fun i=>Nat.beq (levelOf b acts i) k) (acts.filter fun i=>Nat.beq (levelOf b acts i) k)
def textOf:Nat→List Oper→List Nat
 | _,[]=>[]
 | i,_::l=>i::textOf (Nat.succ i) l
def ordOf (P:Program) (all:List Oper) (b:List Nat):List Nat:=let l:=textOf 0 all; bif ordOk P all b l then l else asapOf P all b
def againAt (P:Program) (all:List Oper) (b:List Nat):List Nat→Bool→List Nat→List Nat
 | [],_,_=>[]
 | i::pre,dirty,acts =>
  match nth all i with
  | none=>[]
  | some o=>match kindOf P o.op with
   | 0=>againAt P all b pre dirty acts
   | 1=>bif dirty && !acts.any (fun a=>bitOf b a i) then i::againAt P all b pre dirty acts else againAt P all b pre dirty acts
   | 2=>againAt P all b pre true (i::acts)
   | _=>againAt P all b pre true acts
def readsSame (o:OpF) (v:Value) (t:Tm) (w:AW):Bool:=match o t w with | .val u _=>sameVal 5 v u | _=>false
def readOne (o:OpF) (g:Option Bool) (v:Value) (t:Tm) (w:AW):Bool:=match g with | some b=>bif b then readsSame o v t w else true | none=>false
def readAgain (P:Program) (all:List Oper) (i:Nat):Box (Tm→AW→Bool) :=
 match nth all i with
 | none=>⟨fun _ _=>false⟩
 | some o=>match o.dst with
  | none=>⟨fun _ _=>false⟩
  | some d=>⟨fun t w=>readOne (opS P o.type o.op).val ((guardS all o.guard).val t) ((getS 16 d).val t) t w⟩
def againAll (P:Program) (all:List Oper):List Nat→Box (Tm→AW→Bool)
 | []=>⟨fun _ _=>true⟩
 | i::l=>⟨fun t w=>(readAgain P all i).val t w && (againAll P all l).val t w⟩
def junk:Value:=.chan (some 1)
def junkAll:List Oper→Tm→Tm
 | [],t=>t
 | o::l,t=>junkAll l (match o.dst with | some d=>(setS 16 d).val junk t | none=>t)
def drawO (k:CodeF) (p:Value→Tm→Tm) (all:List Oper) (t:Tm) (ds:List Deferred) (x:Ctx) (o:RO):RC :=
 match o with
 | .fail=>.fail
 | .ok out w _=>match out with
  | .ret v=>k (p v t) ds w x
  | .panic v=>.ok (.panic v) (junkAll all t) ds w x
def drawY (k:CodeF) (p:Value→Tm→Tm) (all:List Oper) (t:Tm) (ds:List Deferred) (x:Ctx) (y:YR):RC :=
 match y with
 | .fail=>.fail
 | .val b w=>k (p (.bool b) t) ds w x
 | .panic v w=>.ok (.panic v) (junkAll all t) ds w x
def drawN (r:Rec) (k:CodeF) (p:Value→Tm→Tm) (all:List Oper) (t:Tm) (ds:List Deferred) (x:Ctx) (y:R):RC :=
 match y with
 | .val v w=>k (p v t) ds w x
 | .enter f args w=>drawO k p all t ds x (r.call f args w .none)
 | .yield l args w=>drawY k p all t ds x (yieldA r l args w)
 | .panic v w=>.ok (.panic v) (junkAll all t) ds w x
 | _=>.fail
def quietN (k:CodeF) (p:Value→Tm→Tm) (t:Tm) (ds:List Deferred) (x:Ctx) (y:R):RC :=
 match y with
 | .val v w=>k (p v t) ds w x
 | _=>.fail
def drawG (k:CodeF) (p:Value→Tm→Tm) (f:CodeF) (t:Tm) (ds:List Deferred) (w:AW) (x:Ctx) (g:Option Bool):RC :=
 match g with
 | none=>.fail
 | some b=>bif b then f t ds w x else k (p undef t) ds w x
def drawA (P:Program) (all:List Oper) (o:Oper) (again:Tm→AW→Bool) (k:Rec→CodeF):CodeS:=fun r t ds w x =>
 bif again t w then drawG (k r) (putDst o.dst).val (fun t ds w x=>drawN r (k r) (putDst o.dst).val all t ds x ((opS P o.type o.op).val t w)) t ds w x ((guardS all o.guard).val t) else .fail
def drawQ (P:Program) (all:List Oper) (o:Oper) (k:Rec→CodeF):CodeS:=fun r t ds w x =>
 drawG (k r) (putDst o.dst).val (fun t ds w x=>quietN (k r) (putDst o.dst).val t ds x ((opS P o.type o.op).val t w)) t ds w x ((guardS all o.guard).val t)
def drawS (P:Program) (n:Nat) (all:List Oper) (b:List Nat):List Nat→List Nat→Box CodeS
 | pre,[]=>⟨fun _ t ds w x=>bif (againAll P all (againAt P all b pre false [])).val t w then .ok .normal t ds w x else .fail⟩
 | pre,i::rest =>
  match nth all i with
  | none=>⟨fun _ _ _ _ _=>.fail⟩
  | some o=>bif operOk P n o then (bif isAct P o.op then ⟨drawA P all o (againAll P all (againAt P all b pre false [])).val (drawS P n all b (i::pre) rest).val⟩ else ⟨drawQ P all o (drawS P n all b (i::pre) rest).val⟩) else ⟨fun _ _ _ _ _=>.fail⟩
def drawC (P:Program) (n:Nat) (ops:List Oper) (b:List Nat):Box CodeS :=
 let ord:=ordOf P ops b
 bif drawOk P ops b ord && ops.all (fun o=>dstOk n o.dst) then ⟨fun r t ds w x=>(drawS P n ops b [] ord).val r t ds w x⟩ else ⟨fun _ _ _ _ _=>.fail⟩
def blockK (id:Nat) (x:RC):RC :=
 match x with
 | .fail=>.fail
 | .ok ex t ds w x=>match ex with
  | .exit i=>bif Nat.beq i id then .ok .normal t ds w x else .ok (.exit i) t ds w x
  | ex=>.ok ex t ds w x
def condK (a b:CodeF) (t:Tm) (ds:List Deferred) (w:AW) (x:Ctx) (v:Value):RC :=
 match v with
 | .bool c=>bif c then a t ds w x else b t ds w x
 | _=>.fail
def loopN (body:CodeF):Nat→CodeF
 | 0=>fun _ _ _ _=>.fail
 | n + 1=>fun t ds w x=>seqK (loopN body n) (body t ds w x)
def loopE (t:Tm) (ds:List Deferred) (x:Ctx) (j:Option Code) (w:Option AW):RC :=
 match w with
 | none=>.fail
 | some w=>match j with
  | none=>.ok .normal t ds w x
  | some j=>match j with
   | .exit id=>.ok (.exit id) t ds w x
   | .ret=>.ok .ret t ds w x
   | _=>.fail
def isBusy (s:LoopState):Bool:=match s with | .busy=>true | _=>false
def loopD (l:Nat) (t:Tm) (ds:List Deferred) (w:AW) (x:Ctx) (lp:Option ALoop):RC :=
 match lp with
 | none=>.fail
 | some lp=>bif isBusy lp.state then .fail else loopE t ds x lp.pending (putO w l (.loop ⟨lp.n,lp.tmps,lp.params,lp.assign,lp.body,lp.pending,.exhausted⟩))
def rangeK (l:Nat) (t:Tm) (ds:List Deferred) (x:Ctx) (o:RO):RC :=
 match o with
 | .fail=>.fail
 | .ok out w _=>match out with
  | .panic v=>.ok (.panic v) t ds w x
  | .ret _=>loopD l t ds w x (loopAt w l)
def rangeN (r:Rec) (l:Nat) (t:Tm) (ds:List Deferred) (x:Ctx) (o:R):RC :=
 match o with
 | .enter f args w=>rangeK l t ds x (r.call f args w .none)
 | _=>.fail
def rangeB (P:Program) (n:Nat) (r:Rec) (f:Value) (params:List Tmp) (assign body:Code) (t:Tm) (ds:List Deferred) (w:AW) (x:Ctx):RC :=
 bif isRound x then .fail else
 rangeN r w.next t ds x (callV P (w.add (.loop ⟨n,t,params,assign,body,none,.ready⟩)) f [.func (.yield w.next) #[] #[]])
def compC (P:Program) (n:Nat):Code→Box CodeS
 | .skip=>⟨fun _ t ds w x=>.ok .normal t ds w x⟩
 | .label _=>⟨fun _ t ds w x=>.ok .normal t ds w x⟩
 | .seq a b=>⟨fun r t ds w x=>seqK ((compC P n b).val r) ((compC P n a).val r t ds w x)⟩
 | .cond c a b=>bif constOk P c then ⟨fun r t ds w x=>condK ((compC P n a).val r) ((compC P n b).val r) t ds w x ((evS c).val t)⟩ else ⟨fun _ _ _ _ _=>.fail⟩
 | .block id body=>⟨fun r t ds w x=>blockK id ((compC P n body).val r t ds w x)⟩
 | .loop body=>⟨fun r=>loopN ((compC P n body).val r) 4611686018427387904⟩
 | .exit id=>⟨fun _ t ds w x=>.ok (.exit id) t ds w x⟩
 | .goto _=>⟨fun _ _ _ _ _=>.fail⟩
 | .ret=>⟨fun _ t ds w x=>.ok .ret t ds w x⟩
 | .scope body=>⟨fun r=>(compC P n body).val r⟩
 | .region _ ops draw=>bif draw then drawC P n ops.toList (Region.before ops).toList else opsS P n ops.toList ops.toList
 | .rangeFunc f params assign body=>bif constOk P f && params.toList.all (fun d=>dstOk n (some d)) then ⟨fun r t ds w x=>rangeB P n r ((evS f).val t) params.toList assign body t ds w x⟩ else ⟨fun _ _ _ _ _=>.fail⟩
 | .refuse _=>⟨fun _ _ _ _ _=>.fail⟩
def enterT:Nat→List Value→Tm→Tm
 | _,[],t=>t
 | i,v::vs,t=>enterT (Nat.succ i) vs ((setS 16 i).val v t)
def notJunk (v:Value):Option Value:=match v with | .chan _=>none | v=>some v
def resA (P:Program) (t:Tm) (w:AW) (r:ResultVar):Option Value :=
 match r with
 | .tmp n=>notJunk ((getS 16 n).val t)
 | .cell a ty=>match (getS 16 a).val t with
  | .pointer (some a)=>ldA P w ty a
  | _=>none
def ressA (P:Program) (t:Tm) (w:AW):List ResultVar→Option (List Value)
 | []=>some []
 | r::rs=>match resA P t w r with
  | none=>none
  | some v=>match ressA P t w rs with
   | none=>none
   | some vs=>some (v::vs)
def tupV (vs:List Value):Value:=match vs with | [v]=>v | vs=>.tuple ⟨vs⟩
def retA (P:Program) (fn:Func) (t:Tm) (w:AW) (x:Ctx):RO :=
 match ressA P t w fn.results.toList with
 | some vs=>.ok (.ret (tupV vs)) w x
 | none=>.fail
inductive RD where
 | fail
 | ok (w:AW) (x:Ctx)
def afterD (x:Ctx):Ctx:=match x with | .pan v b=>bif b then .ret else .pan v b | x=>x
def deferO (k:AW→Ctx→RD) (o:RO):RD :=
 match o with
 | .fail=>.fail
 | .ok out w x=>match out with
  | .ret _=>k w (afterD x)
  | .panic _=>.fail
def deferN (r:Rec) (k:AW→Ctx→RD) (x:Ctx) (y:R):RD :=
 match y with
 | .enter f args w=>deferO k (r.call f args w x)
 | _=>.fail
def deferA (P:Program) (r:Rec):List Deferred→AW→Ctx→RD
 | [],w,x=>.ok w x
 | d::ds,w,x=>deferN r (deferA P r ds) x (invokeA P w d.target d.args.toList)
def panK (P:Program) (fn:Func) (t:Tm) (x:Ctx) (d:RD):RO :=
 match d with
 | .fail=>.fail
 | .ok w y=>match y with
  | .pan v b=>bif b then .fail else .ok (.panic v) w x
  | .ret=>retA P fn t w x
  | _=>.fail
def retK (P:Program) (fn:Func) (t:Tm) (x:Ctx) (d:RD):RO :=
 match d with
 | .fail=>.fail
 | .ok w y=>match y with | .ret=>retA P fn t w x | _=>.fail
def leaveP (P:Program) (r:Rec) (fn:Func) (v:Value) (t:Tm) (ds:List Deferred) (w:AW) (x:Ctx):RO :=
 match ds with
 | []=>.ok (.panic v) w x
 | d::ds=>panK P fn t x (deferA P r (d::ds) w (.pan v false))
def leaveR (P:Program) (r:Rec) (fn:Func) (t:Tm) (ds:List Deferred) (w:AW) (x:Ctx):RO :=
 match ds with
 | []=>retA P fn t w x
 | d::ds=>retK P fn t x (deferA P r (d::ds) w .ret)
def callE (P:Program) (r:Rec) (fn:Func) (y:RC):RO :=
 match y with
 | .fail=>.fail
 | .ok ex t ds w x=>match ex with
  | .panic v=>leaveP P r fn v t ds w x
  | .normal=>leaveR P r fn t ds w x
  | .ret=>leaveR P r fn t ds w x
  | .exit _=>.fail
def stepCall (P:Program) (r:Rec) (f:FuncId) (args:List Value) (w:AW) (x:Ctx):RO :=
 match bodyOf P f with
 | none=>.fail
 | some p=>match p.2 with
  | none=>.fail
  | some body=>bif Nat.ble (lenL args 0) p.1.ntmps && Nat.ble p.1.ntmps 60000 then callE P r p.1 ((compC P p.1.ntmps body).val r (enterT 0 args .nil) [] w x) else .fail
abbrev Ov:=FuncId→List Value→AW→Option RO
def stepO (P:Program) (r:Rec) (f:FuncId) (args:List Value) (w:AW) (x:Ctx) (o:Option RO):RO :=
 match o with
 | none=>stepCall P r f args w x
 | some o=>o
def ovX (ov:Ov) (f:FuncId) (args:List Value) (w:AW) (x:Ctx):Option RO:=match x with | .none=>ov f args w | _=>none
def stepR (P:Program) (ov:Ov) (r:Rec):Rec where
 code n c:=(compC P n c).val r
 call f args w x:=stepO P r f args w x (ovX ov f args w x)
def run (P:Program) (ov:Ov):Nat→Rec
 | 0=>{ code:=fun _ _ _ _ _ _=>.fail,call:=fun _ _ _ _=>.fail }
 | n + 1=>stepR P ov (run P ov n)
end
end Go.Sh
