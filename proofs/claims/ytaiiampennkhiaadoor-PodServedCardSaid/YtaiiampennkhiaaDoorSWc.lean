/- Part of a proof by a machine of ones own: see the text with the theorem. -/
import Derived.Test.YtaiiampennkhiaaDoorSWb
namespace Go.Proofs.YtaiiampennkhiaaDoor.walk
open Go Go.Sh
open known (partsC laidL noOv)
set_option maxRecDepth 100000
set_option linter.unusedSimpArgs false
end Go.Proofs.YtaiiampennkhiaaDoor.walk
namespace Go.Proofs.YtaiiampennkhiaaDoor.walk
open Go Go.Sh
open known (partsC laidL noOv)
set_option maxRecDepth 100000
set_option linter.unusedSimpArgs false
theorem filter_less {X:List Off} (h:∀ o ∈ X,offIn o) (hne:X ≠ []):(X.filter fun o=>decide (minH X < oL o)).length < X.length:=by
 rw [List.length_filter_lt_length_iff_exists]
 obtain ⟨a1,a2,a3⟩:=minF X 2000
 obtain ⟨o,ho⟩:=List.exists_mem_of_ne_nil X hne
 rcases a3 with e | ⟨x,hx,e⟩
 ·obtain ⟨i1,i2,i3⟩:=h o ho
  have:=a2 o ho
  exact ⟨o,ho,by unfold minH; simp; omega⟩
 ·obtain ⟨i1,i2,i3⟩:=h x hx
  exact ⟨x,hx,by unfold minH; simp; omega⟩
theorem grd_nil (k:Nat):grd k []=[]:=by cases k <;> simp [grd]
theorem mk_span {l:List Pod} {a b:Int} (h:mkErr l a b=0):podsB l=true∧0≤a∧a≤b∧b≤2000:=by
 unfold mkErr at h
 cases hB:podsB l with
 | false=>rw [hB] at h; simp at h
 | true =>
  cases hS:spanI a b 0 2000 with
  | false=>rw [hB,hS] at h; simp at h
  | true =>
   simp only [spanI,Bool.and_eq_true,decide_eq_true_eq] at hS
   exact ⟨rfl,by omega,by omega,by omega⟩
def offsA (l:List Pod) (a b:Int):List Off:=offsTo l a b l.length
theorem offs_in {l:List Pod} {a b:Int} (h:mkErr l a b=0):∀ o ∈ offsA l a b,offIn o∧ofL l a b o∧offFit o:=by
 obtain ⟨hB,h1,h2,h3⟩:=mk_span h
 intro o ho
 obtain ⟨j,j1,j2,j3,j4,j5,j6⟩:=offs_mem ho
 have c1:a≤oL o:=by unfold oL; rw [j4]; omega
 have c2:oH o≤b:=by unfold oH; rw [j5]; omega
 obtain ⟨e1,e2⟩:=win_eq (pods_all hB j2)
 have k:=pod_ok (pods_all hB j2)
 have:=k.h1; have:=k.h2; have:=k.r1
 have c3:winL o.p≤oL o:=by unfold oL; omega
 have c4:oH o≤winH o.p:=by unfold oH; omega
 exact ⟨⟨by omega,j6,by omega⟩,⟨j,j2,j3,j4,j5⟩,by omega,by omega,by omega⟩
def refL (l:List Pod) (a b:Int):List Int:=if mkErr l a b=0 then grd l.length (offsA l a b) else []
end Go.Proofs.YtaiiampennkhiaaDoor.walk
namespace Go.Proofs.YtaiiampennkhiaaDoor.walk
open Go Go.Sh
open known (partsC laidL noOv)
set_option maxRecDepth 100000
set_option linter.unusedSimpArgs false
theorem offs_pair {l:List Pod} {lo hi:Int}:∀ k:Nat,(offsTo l lo hi k).Pairwise (fun a b=>a.i < b.i)
 | 0=>List.Pairwise.nil
 | k + 1=>by
  show (offsTo l lo hi k++_).Pairwise _
  rw [List.pairwise_append]
  have hlt:∀ o ∈ offsTo l lo hi k,o.i < (k:Int):=fun o ho=>by
   obtain ⟨j,j1,_,j3,_⟩:=offs_mem ho
   omega
  refine ⟨offs_pair k,?_,fun x hx y hy=>?_⟩
  ·split
   ·split
    ·exact List.Pairwise.nil
    ·exact List.pairwise_singleton _ _
   ·exact List.Pairwise.nil
  ·have:=hlt x hx
   split at hy
   ·split at hy
    ·simp at hy
    ·simp at hy; subst hy; exact this
   ·simp at hy
structure ApartOk (l:List Pod) (a b:Int) (C:List Off) (A:List Int):Prop where
 mem:∀ o ∈ C,o ∈ offsA l a b
 pair:C.Pairwise (fun x y=>oH x < oL y)
 perm:A.Perm (C.map Off.i)
 sort:SortTo id A A.length
 nodup:(C.map Off.i).Nodup
 len:C.length=(refL l a b).length
theorem apart_ok {l:List Pod} {a b:Int} (hE:mkErr l a b=0) {L:List Off} {A:List Int} (hp:L.Perm (offsA l a b)) (hs:SortTo oH L L.length) (hA:A.Perm (serveS L).2) (hAs:SortTo id A A.length):(serveS L).1=refL l a b∧∃ C,ApartOk l a b C A:=by
 have hin:=offs_in hE
 obtain ⟨h1,h2⟩:=serve_grd hp hs (fun o ho=>(hin o ho).1) (k:=l.length) (offs_len _)
 have e:refL l a b=grd l.length (offsA l a b):=by unfold refL; rw [if_pos hE]
 have hsub:=chosen_sub L (-1)
 have hmem:∀ o ∈ chosenO (-1) L,o ∈ offsA l a b:=fun o ho=>(hp.mem_iff).1 (hsub.subset ho)
 refine ⟨by rw [h1,e],chosenO (-1) L,hmem,(chosen_apart L (-1) fun o ho=>(hin o ((hp.mem_iff).1 ho)).1.2.1).2,?_,hAs,?_,?_⟩
 ·rw [h2] at hA; exact hA
 ·have n1:((offsA l a b).map Off.i).Nodup:=by
   have h:=(offs_pair (l:=l) (lo:=a) (hi:=b) l.length).map (S:=fun (x y:Int)=>x ≠ y) Off.i (fun x y h=>by omega)
   exact h
  have n2:(L.map Off.i).Nodup:=(List.Perm.nodup_iff (hp.map Off.i)).2 n1
  exact List.Pairwise.sublist (hsub.map Off.i) n2
 ·rw [e,← h1,h2]; simp
structure Ho60 (ov:Ov):Prop where
 h60:∀ args w,ov 60 args w=none
 h61:∀ args w,ov 61 args w=none
 h80:∀ args w,ov 80 args w=none
 h91:∀ args w,ov 91 args w=none
 h92:∀ args w,ov 92 args w=none
 h102:∀ args w,ov 102 args w=none
 h115:∀ args w,ov 115 args w=none
 h82:∀ args w,ov 82 args w=none
 h95:∀ args w,ov 95 args w=none
 h84:∀ args w,ov 84 args w=none
 h97:∀ args w,ov 97 args w=none
 h104:∀ args w,ov 104 args w=none
 k93:HasP ov 93 F93
 k81:HasP ov 81 F81
 k83:HasP ov 83 F83
 k85:HasP ov 85 F85
 k48:HasP ov 48 F48
 k98:HasP ov 98 F114
 k110:HasP ov 110 F110
 k59:HasP ov 59 F59
theorem call23 {ov:Ov} (q:Nat) (ho:∀ args w,ov 23 args w=none) (H:Ho60 ov) (l:List Pod) (a b:Int) (v:Value) (w:AW) (hl:w.lim≤w.next) (hv:PodsV w v l) :
  ∃ x w',(run Tryd.prog ov (q + 7)).call 23 [v,.agg ⟨[.int .i64 a,.int .i64 b]⟩] w .none=.ok (.ret x) w' .none∧∃ y,x=.tuple ⟨[y,.int .i64 (mkErr l a b)]⟩∧RowsV intC w' y (refL l a b)∧Old w.next w.heap w'.heap∧w.next≤w'.next∧w'.lim=w.lim:=by
 refine call_wp text23 (by simp) (ho _ _) ?_
 obtain ⟨H1,hH1⟩:∃ H1,H1=w.heap.put w.next (some (.cells [.int .i64 a,.int .i64 b] 26 false)):=⟨_,rfl⟩
 have o1:Old w.next w.heap H1:=by rw [hH1]; exact (Old.refl _ _).put (Nat.le_refl _)
 have hv1:PodsV ⟨H1,w.next + 1,w.lim⟩ v l:=hv.old o1 (Nat.le_succ _)
 have r59:=rule59 (f:=59) H.k59 a b (q + 5) hv1.podsIn
 rw [hH1] at r59
 by_cases hE:mkErr l a b=0
 ·obtain ⟨hB,e1,e2,e3⟩:=mk_span hE
  have h12:=podsB_len hB
  have hin:=offs_in hE
  obtain ⟨u,w1,hc,hacc,ho1,hn1,hl1⟩:=call61 (q + 4) H.h61 H.k48 H.k85 l a b v _ hv1 (by omega) (by show w.lim≤w.next + 1; omega)
  have hn1':w.next + 1 < w1.next:=hn1
  have hl1':w1.lim=w.lim:=hl1
  have nj:=hacc.ok
  obtain ⟨x2,w2,c60,rv,av,L,A,rfl,r1,r2,r3,r4,r5,r6,r7,r8,r9⟩:=call60 q H.h60 H.h80 H.h91 H.h92 H.h102 H.h115 H.h82 H.h95 H.h84 H.h97 H.h104 H.k93 H.k81 H.k83 H.k85 H.k98 H.k110 (offsA l a b) (by have:=offs_len (l:=l) (lo:=a) (hi:=b) l.length; unfold offsA; omega) (fun o ho=>(hin o ho).2.2) _ u w1 (by omega) hacc
  obtain ⟨k1,_⟩:=apart_ok hE r3 r4 r5 r6
  rw [hH1] at hc
  rw [hE] at r59
  have nj1:notJunk rv=some rv:=by obtain ⟨x,y,e⟩:=r1.len; rw [e]; rfl
  have nj2:notJunk av=some av:=by obtain ⟨x,y,e⟩:=r2.len; rw [e]; rfl
  simp only [Nat.add_assoc,Nat.reduceAdd] at hc r59
  simp [mc23,r59,hE,hc,nj,c60,nj1,nj2,tupV]
  rw [k1] at r1
  exact ⟨r1,fun x hx=>by rw [r7 x (by omega),ho1 x (by show x < w.next + 1; omega)]; exact o1 x hx,by omega,by omega⟩
 ·have e:refL l a b=[]:=by unfold refL; rw [if_neg hE]
  simp only [Nat.add_assoc,Nat.reduceAdd] at r59
  simp [mc23,r59,hE,tupV]
  rw [e]
  exact .inl ⟨rfl,_,_,rfl⟩
end Go.Proofs.YtaiiampennkhiaaDoor.walk
namespace Go.Proofs.YtaiiampennkhiaaDoor.walk
open Go Go.Sh
open known (partsC laidL noOv)
set_option maxRecDepth 100000
set_option linter.unusedSimpArgs false
structure In28 (w1 w:AW):Prop where
 old:∀ x,x < w1.next→w.heap.get x=w1.heap.get x
 next:w1.next≤w.next
 lim:w.lim=w1.lim
end Go.Proofs.YtaiiampennkhiaaDoor.walk
namespace Go.Proofs.YtaiiampennkhiaaDoor.walk
open Go Go.Sh
open known (partsC laidL noOv)
set_option maxRecDepth 100000
set_option linter.unusedSimpArgs false
end Go.Proofs.YtaiiampennkhiaaDoor.walk
namespace Go.Proofs.YtaiiampennkhiaaDoor.walk
open Go Go.Sh
open known (partsC laidL noOv)
set_option maxRecDepth 100000
set_option linter.unusedSimpArgs false
theorem grd_len:∀ (k:Nat) (L:List Off),(grd k L).length≤k
 | 0,_=>by simp [grd]
 | k + 1,L=>by
  unfold grd
  split
  ·simp
  ·have:=grd_len k (L.filter fun o=>decide (minH L < oL o))
   simp only [List.length_cons]
   omega
theorem refL_len (l:List Pod) (a b:Int):(refL l a b).length≤12:=by
 unfold refL
 split
 ·rename_i h
  have:=grd_len l.length (offsA l a b)
  have:=podsB_len (mk_span h).1
  omega
 ·simp
end Go.Proofs.YtaiiampennkhiaaDoor.walk
