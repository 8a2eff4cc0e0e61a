/- Part of a proof by a machine of ones own: see the text with the theorem. -/
import Derived.Test.YtaiiampennkhiaaDoorRWa
namespace Go.Proofs.YtaiiampennkhiaaDoor.walk
open Go Go.Sh
open known (partsC laidL noOv)
set_option maxRecDepth 100000
set_option linter.unusedSimpArgs false
def mkE (l:List Pod) (a b n:Int):Int:=bif podsB l then (bif mkB a b n then 0 else 7) else 30
def mkS (l:List Pod) (a b n:Int):Int × Int:=if mkE l a b n=0 then mst l a n (b - a + 1).toNat else (0,0)
def mkV (l:List Pod) (a b n:Int):Value:=.tuple ⟨[.int .i64 (mkS l a b n).1,.int .i64 (mkS l a b n).2,.int .i64 (mkE l a b n)]⟩
open Classical in
noncomputable def F31:PureF:=fun args w=>match args with | [v,.agg ⟨[.int .i64 a,.int .i64 b]⟩,.int .i64 n]=>(podsIn w v).bind fun l=>if PartsW w then some (mkV l a b n) else none | _=>none
theorem rule31 {ov:Ov} {f:FuncId} (k:HasP ov f F31) {v:Value} {l:List Pod} (a b n:Int) (m:Nat) {w:AW} (hPW:PartsW w) (hv:podsIn w v=some l):(run Tryd.prog ov (m + 1)).call f [v,.agg ⟨[.int .i64 a,.int .i64 b]⟩,.int .i64 n] w .none=.ok (.ret (mkV l a b n)) w .none:=k.call (by
 simp only [F31,hv,Option.bind_some]
 rw [if_pos hPW])
theorem run31 {ov:Ov} (ho:∀ args w,ov 31 args w=none) (h14:HasP ov 14 F14) (h67:HasP ov 67 F67) (h68:HasP ov 68 F68) (l:List Pod) (a b n:Int) (v:Value) (w:AW) (hPW:PartsW w) (hv:PodsV w v l) :
  ∃ x w',(run Tryd.prog ov 2).call 31 [v,.agg ⟨[.int .i64 a,.int .i64 b]⟩,.int .i64 n] w .none=.ok (.ret x) w' .none∧x=mkV l a b n:=by
 refine call_wp text31 (by simp) (ho _ _) ?_
 have o1:Old w.next w.heap (w.heap.put w.next (some (.cells [.int .i64 a,.int .i64 b] 26 false))):=(Old.refl _ _).put (Nat.le_refl _)
 have hv1:PodsV ⟨w.heap.put w.next (some (.cells [.int .i64 a,.int .i64 b] 26 false)),w.next + 1,w.lim⟩ v l:=hv.old o1 (Nat.le_succ _)
 have hPW1:PartsW ⟨w.heap.put w.next (some (.cells [.int .i64 a,.int .i64 b] 26 false)),w.next + 1,w.lim⟩:=hPW.old o1 (Nat.le_succ _)
 have r14:=rule14 h14 hv1.podsIn
 have r67:=fun w=>rule67 h67 a b n 0 w
 simp only [Nat.zero_add] at r67
 cases hB:podsB l with
 | false =>
  have e:mkE l a b n=30:=by simp [mkE,hB]
  simp [mc31,r14,hB,errB,tupV,mkV,mkS,e]
 | true =>
  cases hM:mkB a b n with
  | false =>
   have e:mkE l a b n=7:=by simp [mkE,hB,hM]
   simp [mc31,r14,hB,errB,r67,hM,tupV,mkV,mkS,e]
  | true =>
   have e:mkE l a b n=0:=by simp [mkE,hB,hM]
   have r68:=rule68 h68 hB hM 0 hPW1 hv1.podsIn
   simp only [Nat.zero_add] at r68
   simp [mc31,r14,hB,errB,r67,hM,r68,tupV,mkV,mkS,e]
def plE (l:List Pod) (R:List Int):Int:=bif podsB l then (bif roundsB R then 0 else 31) else 30
def plL (l:List Pod) (R:List Int):List Int:=if plE l R=0 then l.map fun p=>cutI p R else []
end Go.Proofs.YtaiiampennkhiaaDoor.walk
namespace Go.Proofs.YtaiiampennkhiaaDoor.walk
open Go Go.Sh
open known (partsC laidL noOv)
set_option maxRecDepth 100000
set_option linter.unusedSimpArgs false
theorem make33 (n:Nat) (hn:n≤1000) (w:AW):makeSliceA Tryd.prog w 33 (.int .i64 (n:Int)) (.int .i64 (n:Int))=.val (.slice (some ⟨w.next,0,none⟩) n n) ⟨w.heap.put w.next (some (.cells ((List.replicate n (0:Int)).flatMap intC) 3 false)),w.next + 1,w.lim⟩:=by
 rw [make_eq (e:=3) (z:=.int .i64 0) (by kernel_rfl) (by kernel_rfl) (by kernel_rfl) n hn w,← repl_flat]; rfl
structure In29 (w0:AW) (n:Nat) (L:List Int) (w:AW):Prop where
 old:Old w0.next w0.heap w.heap
 row:w.heap.get w0.next=some (.cells (L.flatMap intC) 3 false)
 next:w0.next < w.next
 lim:w.lim=w0.lim
 len:L.length=n
theorem loop29 {ov:Ov} (m:Nat) (h66:HasP ov 66 F66) (l:List Pod) (h12:l.length≤12) (R:List Int) (hR:R.length≤12) (v u:Value) (w0:AW) (hl0:w0.lim≤w0.next) (hv:PodsV w0 v l) (hu:RowsV intC w0 u R)
  (Q:Ex→Tm→AW→Prop) (t:Tm) (w:AW) (L0:List Int) (hw:In29 w0 l.length L0 w)
  (t1:tget t 1=u) (t7:tget t 7=.slice (some ⟨w0.next,0,none⟩) l.length l.length) (t21:tget t 21=v) (t22:tget t 22=.int .i64 (l.length:Nat)) (t23:tget t 23=.int .i64 0)
  (hQ:∀ t w,In29 w0 l.length (l.map fun p=>cutI p R) w→tget t 7=.slice (some ⟨w0.next,0,none⟩) l.length l.length→Q (.exit 0) t w) :
  wp (exM Tryd.prog (run Tryd.prog ov (m + 1)) (.loop mc29_l0) t w) Q:=by
 refine wp_rounds (fun i t w=>(∃ L,In29 w0 l.length L w∧∀ d,d < i→L[d]?=(l.map fun p=>cutI p R)[d]?)∧tget t 1=u∧tget t 7=.slice (some ⟨w0.next,0,none⟩) l.length l.length∧tget t 21=v∧tget t 22=.int .i64 (l.length:Nat)∧tget t 23=.int .i64 (i:Nat)∧i≤l.length) 200 (by decide)
  ⟨⟨_,hw,fun d hd=>by omega⟩,t1,t7,t21,t22,t23,Nat.zero_le _⟩ ?_
 clear t1 t7 t21 t22 t23 hw
 rintro i t w ⟨⟨L,hw,hL⟩,t1,t7,t21,t22,t23,hi⟩
 by_cases hlt:i < l.length
 ·obtain ⟨p,hp⟩:∃ p,l[i]?=some p:=⟨_,List.getElem?_eq_getElem hlt⟩
  obtain ⟨b,sq,c,rfl,hpa⟩:=hv.at_ i hlt
  have hld:=load_pod' hpa hp
  rw [← hw.old _ hpa.lt] at hld
  have hnx:=hw.next
  have hlm:=hw.lim
  have hrow:=hw.row
  have hlen:=hw.len
  obtain ⟨H1,hH1⟩:∃ H1,H1=(w.heap.put w.next (some (.cells [.string ⟨⟨[]⟩⟩,.int .i64 0,.int .i64 0,.int .i64 0,.int .i64 0,.int .i64 0,.int .i64 0,.int .i64 0] 30 false))).put w.next (some (.cells (podC p) 30 false)):=⟨_,rfl⟩
  have k1:∀ x,x < w.next→H1.get x=w.heap.get x:=fun x hx=>by
   rw [hH1,get_put,if_neg (by omega),get_put,if_neg (by omega)]
  have hu1:RowsV intC ⟨H1,w.next + 1,w.lim⟩ u R:=hu.old (fun x hx=>by show H1.get x=_; rw [k1 x (by omega),hw.old x hx]) (by show w0.next≤w.next + 1; omega)
  have r66:=rule66 h66 p hR hu1 m
  rw [hH1] at r66
  have m0:¬ b=w.next:=by have:=hpa.lt; omega
  have m1:¬ w0.next=w.next:=by omega
  have m2:¬ w.next=w0.next:=by omega
  have l1:w.lim≤w.next:=by omega
  have l2:w.lim≤w0.next:=by omega
  have hia:=fun w=>ia22 w ⟨b,0,sq⟩ l.length c .i64 i hlt
  have hi3:=fun w=>ia33 w ⟨w0.next,0,none⟩ l.length l.length .i64 i hlt
  have hw1:IntKind.wrap .i64 ((i:Int) + 1)=(i:Int) + 1:=wrap64_in (by omega) (by omega)
  obtain ⟨x,hx⟩:∃ x,x=cutI p R:=⟨_,rfl⟩
  rw [← hx] at r66
  have hset:=flat_set intC_length L i x (by omega)
  have hfl:(L.flatMap intC).length=l.length:=by rw [flat_length intC_length,hlen]; omega
  obtain ⟨cs,hcs⟩:∃ cs,cs=L.flatMap intC:=⟨_,rfl⟩
  rw [← hcs] at hset hfl hrow
  simp only [Nat.mul_one,intC,List.cons_append,List.nil_append] at hset
  have hfit:i + 1≤l.length:=hlt
  simp [mc29_l0,t1,t7,t21,t22,t23,hlt,hia,hi3,hld,l1,l2,m0,m1,m2,cellsOf_agg,r66,hrow,hfl,hfit,hset,hw1]
  refine ⟨by omega,L.set i x,⟨fun y hy=>?_,?_,by show w0.next < w.next + 1; omega,hlm,by rw [List.length_set]; exact hlen⟩,fun d hd=>?_⟩
  ·simp [show ¬ y=w0.next by omega,show ¬ y=w.next by omega]
   exact hw.old y hy
  ·simp [intC]
  ·by_cases e:d=i
   ·subst e
    rw [List.getElem?_set_self (by omega),hp,hx]; rfl
   ·rw [List.getElem?_set_ne (Ne.symm e),hL d (by omega),List.getElem?_map]
 ·have hi':i=l.length:=by omega
  subst hi'
  simp [mc29_l0,t22,t23]
  have e:L=l.map fun p=>cutI p R:=by
   apply List.ext_getElem?
   intro d
   by_cases hd:d < l.length
   ·exact hL d hd
   ·rw [List.getElem?_eq_none (by rw [hw.len]; omega),List.getElem?_eq_none (by rw [List.length_map]; omega)]
  exact hQ _ _ (e ▸ hw) (by simp [t7])
end Go.Proofs.YtaiiampennkhiaaDoor.walk
namespace Go.Proofs.YtaiiampennkhiaaDoor.walk
open Go Go.Sh
open known (partsC laidL noOv)
set_option maxRecDepth 100000
set_option linter.unusedSimpArgs false
theorem call29 {ov:Ov} (m:Nat) (ho:∀ args w,ov 29 args w=none) (h14:HasP ov 14 F14) (h65:HasP ov 65 F65) (h66:HasP ov 66 F66) (l:List Pod) (R:List Int) (v u:Value) (w:AW) (hl:w.lim≤w.next) (hv:PodsV w v l) (hu:RowsV intC w u R) :
  ∃ x w',(run Tryd.prog ov (m + 2)).call 29 [v,u] w .none=.ok (.ret x) w' .none∧∃ y,x=.tuple ⟨[y,.int .i64 (plE l R)]⟩∧RowsV intC w' y (plL l R)∧Old w.next w.heap w'.heap∧w.next≤w'.next∧w'.lim=w.lim:=by
 refine call_wp text29 (by simp) (ho _ _) ?_
 have r14:=rule14m h14 hv.podsIn m
 have r65:=rule65 h65 hu m
 have hlv:=len22V hv
 cases hB:podsB l with
 | false =>
  have e:plE l R=30:=by simp [plE,hB]
  simp [mc29,r14,hB,errB,tupV,e]
  exact .inl ⟨by simp [plL,e],_,_,rfl⟩
 | true =>
  cases hR:roundsB R with
  | false =>
   have e:plE l R=31:=by simp [plE,hB,hR]
   simp [mc29,r14,hB,errB,r65,hR,tupV,e]
   exact .inl ⟨by simp [plL,e],_,_,rfl⟩
  | true =>
   have e:plE l R=0:=by simp [plE,hB,hR]
   have h12:=podsB_len hB
   have hR12:R.length≤12:=by simp only [roundsB,Bool.and_eq_true,decide_eq_true_eq] at hR; exact hR.1
   have hmk:=fun w=>make33 l.length (by omega) w
   simp [mc29,r14,hB,errB,r65,hR,hlv,hmk]
   refine wp_seqX (wp_blockX (loop29 m h66 l h12 R hR12 v u w hl hv hu _ _ _ (List.replicate l.length 0) ⟨?_,?_,?_,?_,?_⟩ ?_ ?_ ?_ ?_ ?_ ?_))
   case _=>exact (Old.refl _ _).put (Nat.le_refl _)
   case _=>simp
   case _=>simp
   case _=>rfl
   case _=>simp
   case _=>simp
   case _=>simp
   case _=>simp
   case _=>simp
   case _=>simp
   case _ =>
    intro t w' hI t7
    have hnx:=hI.next
    have hrow:=hI.row
    simp [t7,tupV,e]
    have hpl:plL l R=l.map fun p=>cutI p R:=by simp [plL,e]
    refine ⟨?_,hI.old,by omega,hI.lim⟩
    rw [hpl]
    exact .inr ⟨w.next,0,none,l.length,by rw [List.length_map],⟨[],[],3,false,by simpa using hrow,rfl⟩,hnx⟩
end Go.Proofs.YtaiiampennkhiaaDoor.walk
namespace Go.Proofs.YtaiiampennkhiaaDoor.walk
open Go Go.Sh
open known (partsC laidL noOv)
set_option maxRecDepth 100000
set_option linter.unusedSimpArgs false
structure In30 (w0:AW) (N:Nat) (v:Value) (acc:List Int) (w:AW):Prop where
 old:∀ x,x≤N→w.heap.get x=w0.heap.get x
 acc:AccR intC 3 N w v acc
 next:N < w.next
 lm:w.lim=w0.lim
end Go.Proofs.YtaiiampennkhiaaDoor.walk
namespace Go.Proofs.YtaiiampennkhiaaDoor.walk
open Go Go.Sh
open known (partsC laidL noOv)
set_option maxRecDepth 100000
set_option linter.unusedSimpArgs false
end Go.Proofs.YtaiiampennkhiaaDoor.walk
namespace Go.Proofs.YtaiiampennkhiaaDoor.walk
open Go Go.Sh
open known (partsC laidL noOv)
set_option maxRecDepth 100000
set_option linter.unusedSimpArgs false
end Go.Proofs.YtaiiampennkhiaaDoor.walk
namespace Go.Proofs.YtaiiampennkhiaaDoor.walk
open Go Go.Sh
open known (partsC laidL noOv)
set_option maxRecDepth 100000
set_option linter.unusedSimpArgs false
theorem ruleWn {ov:Ov} (h:HasW ov) {w:AW} (hw:PartsAt w) (m:Nat):(run Tryd.prog ov (m + 1)).call 18 [] w .none=.ok (.ret (.bool true)) w .none:=by
 show stepO Tryd.prog (run Tryd.prog ov m) 18 [] w .none (ov 18 [] w)=_
 rw [h w hw]; rfl
end Go.Proofs.YtaiiampennkhiaaDoor.walk
