/- Part of a proof by a machine of ones own: see the text with the theorem. -/
import Derived.Test.YtlkklcbjjompbaaDoorCWb
import Derived.Test.YtlkklcbjjompbaaDoorShF
namespace Go.Proofs.YtlkklcbjjompbaaDoor.walk
open Go Go.Sh
set_option maxRecDepth 100000
set_option linter.unusedSimpArgs false
end Go.Proofs.YtlkklcbjjompbaaDoor.walk
namespace Go.Proofs.YtlkklcbjjompbaaDoor.walk
open Go Go.Sh
set_option maxRecDepth 100000
set_option linter.unusedSimpArgs false
theorem list28:isList Tryd.prog 28=true:=by kernel_rfl
theorem small3:smallT Tryd.prog 3=true:=by kernel_rfl
def spC (p:Sp):List Value:=[.int .i64 p.1,.int .i64 p.2]
@[simp] theorem spC_length (p:Sp):(spC p).length=2:=rfl
theorem spC_inj (a b:Sp) (h:spC a=spC b):a=b:=by
 cases a; cases b; simpa [spC] using h
end Go.Proofs.YtlkklcbjjompbaaDoor.walk
namespace Go.Proofs.YtlkklcbjjompbaaDoor.walk
open Go Go.Sh
set_option maxRecDepth 100000
set_option linter.unusedSimpArgs false
theorem mk43 (n:Nat) (hn:n≤1000) (w:AW):makeSliceA Tryd.prog w 43 (.int .i64 (n:Int)) (.int .i64 (n:Int))=.val (.slice (some ⟨w.next,0,none⟩) n n) ⟨w.heap.put w.next (some (.cells ((List.replicate n ((0,0):Sp)).flatMap spC) 25 false)),w.next + 1,w.lim⟩:=by
 rw [make_eq (e:=25) (z:=.agg ⟨[.int .i64 0,.int .i64 0]⟩) (by kernel_rfl) (by kernel_rfl) (by kernel_rfl) n hn w,← repl_flat]; rfl
def partL (L:List Sp) (n i:Nat):List Sp:=L.take i++List.replicate (n - i) (0,0)
theorem part_zero (L:List Sp) (n:Nat):partL L n 0=List.replicate n (0,0):=by simp [partL]
theorem part_full (L:List Sp):partL L L.length L.length=L:=by simp [partL]
theorem part_length {L:List Sp} {i:Nat} (h:i≤L.length):(partL L L.length i).length=L.length:=by simp [partL]; omega
theorem part_set {L:List Sp} {i:Nat} {x:Sp} (h:L[i]?=some x):(partL L L.length i).set i x=partL L L.length (i + 1):=by
 have hi:=(List.getElem?_eq_some_iff.1 h).1
 unfold partL
 rw [take_snoc h]
 obtain ⟨k,hk⟩:∃ k,L.length - i=k + 1:=⟨L.length - i - 1,by omega⟩
 rw [hk,List.replicate_succ,List.set_append_right _ _ (by rw [List.length_take]; omega)]
 rw [show i - (L.take i).length=0 by rw [List.length_take]; omega,List.set_cons_zero,show L.length - (i + 1)=k by omega]
 simp
def ProcV (w:AW) (pv:Value) (L:List Sp):Prop:=∃ B,pv=.slice (some ⟨B,0,none⟩) L.length L.length∧w.heap.get B=some (.cells (L.flatMap spC) 25 false)∧B < w.next
theorem ProcV.rows {w:AW} {pv:Value} {L:List Sp} (h:ProcV w pv L):RowsV spC w pv L:=by
 obtain ⟨B,rfl,h1,h2⟩:=h
 exact .inr ⟨B,0,none,_,rfl,⟨[],[],25,false,by simpa using h1,rfl⟩,h2⟩
theorem ProcV.up {w w':AW} {pv:Value} {L:List Sp} (h:ProcV w pv L) (u:Up w w'):ProcV w' pv L:=by
 obtain ⟨B,rfl,h1,h2⟩:=h
 exact ⟨B,rfl,by rw [u.at h2]; exact h1,Nat.lt_of_lt_of_le h2 u.next⟩
def procC (b:CBox) (pv:Value):List Value:=[.int .i64 b.wl,.int .i64 b.wh,.int .i64 b.sl,.int .i64 b.sh,pv]
set_option maxHeartbeats 1000000 in
theorem call57 {ov:Ov} (m:Nat) (ho:∀ args w,ov 57 args w=none) (r:List CAct) (acts:List Int) (hact:∀ a ∈ acts,0≤a∧∃ x,r[a.toNat]?=some x) (hlen:acts.length≤14) (b:CBox) (rv av:Value) (we:AW) (hlim:we.lim≤we.next) (hrv:RowsV actC we rv r) (hav:RowsV intC we av acts) :
  ∃ v w',(run Tryd.prog ov (m + 1)).call 57 [rv,.agg ⟨boxC b⟩,av] we .none=.ok (.ret v) w' .none∧∃ pv,v=.agg ⟨procC b pv⟩∧ProcV w' pv (lossL r acts)∧Up we w':=by
 refine call_wp text57 (by simp) (ho _ _) ?_
 have hl3:=fun w2=>len28V (w':=w2) hav
 have hLl:(lossL r acts).length=acts.length:=by simp [lossL]
 have sm:sameVal 5 (.agg ⟨[.int .i64 b.wl,.int .i64 b.wh,.int .i64 b.sl,.int .i64 b.sh]⟩) (.agg ⟨[.int .i64 b.wl,.int .i64 b.wh,.int .i64 b.sl,.int .i64 b.sh]⟩)=true:=same_agg _ (by
  intro v hv
  simp only [List.mem_cons,List.not_mem_nil,or_false] at hv
  rcases hv with rfl | rfl | rfl | rfl <;> exact sameN_int _ _ _)
 have q1:we.lim≤we.next + 1 + 1 + 1:=by omega
 have hmk:=fun w=>mk43 acts.length (by omega) w
 simp only [boxC]
 simp [mc57,cellsOf_agg,hl3,hmk,sm,q1]
 refine wp_seqX (wp_blockX (wp_rounds (fun i t w=>w.heap.get (we.next + 1 + 1)=some (.cells ((partL (lossL r acts) (lossL r acts).length i).flatMap spC) 25 false)∧w.heap.get (we.next + 1 + 1 + 1)=some (.cells [.int .i64 b.wl,.int .i64 b.wh,.int .i64 b.sl,.int .i64 b.sh,.slice (some ⟨we.next + 1 + 1,0,none⟩) acts.length acts.length] 97 false)∧w.heap.get (we.next + 1)=some (.cells [.int .i64 0,.int .i64 0,.int .i64 0,.int .i64 0,.slice none 0 0] 97 false)∧Up we w∧we.next + 4≤w.next∧tget t 0=rv∧tget t 2=av∧tget t 6=.pointer (some ⟨we.next + 1,0,none⟩)∧tget t 7=.pointer (some ⟨we.next + 1 + 1 + 1,0,none⟩)∧tget t 15=.int .i64 (acts.length:Nat)∧tget t 16=.int .i64 (i:Nat)∧i≤acts.length) 20 (by decide) ?_ ?_))
 ·refine ⟨?_,?_,?_,?_,?_,?_,?_,?_,?_,?_,?_,Nat.zero_le _⟩
  ·rw [part_zero,hLl]; simp
  ·simp
  ·simp
  ·exact (((((Up.refl we).add _).put (Nat.le_succ _) (Nat.le_succ _)).put (by show we.next≤we.next + 1 + 1; omega) (Nat.le_succ _)).put (by show we.next≤we.next + 1 + 1 + 1; omega) (Nat.le_succ _)).put (by show we.next≤we.next + 1 + 1 + 1; omega) (Nat.le_refl _)
  ·show we.next + 4≤we.next + 1 + 1 + 1 + 1; omega
  all_goals simp
 ·rintro i t w ⟨hB,h7,h6,hup,hnx,t0,t2,t6,t7,t15,t16,hi⟩
  have hlm:w.lim=we.lim:=hup.lim
  by_cases hlt:i < acts.length
  ·obtain ⟨a,ha⟩:∃ p,acts[i]?=some p:=⟨_,List.getElem?_eq_getElem hlt⟩
   obtain ⟨ha0,x,hx⟩:=hact a (List.mem_of_getElem? ha)
   obtain ⟨n,rfl⟩:∃ n:Nat,a=(n:Int):=⟨a.toNat,by omega⟩
   simp only [Int.toNat_natCast] at hx
   have hn:=(List.getElem?_eq_some_iff.1 hx).1
   obtain ⟨bb,off,sq,c,rfl,hra⟩:=hav.at_ i hlt
   obtain ⟨b2,off2,sq2,c2,rfl,hrb⟩:=hrv.at_ n hn
   have hld:=hra.int ha
   have f5:rdO (we.heap.get b2) (off2 + n * 7 + 5) 2=some [.int .i64 x.ll,.int .i64 x.lh]:=rdO_sub (hrb.rd actC_length hx) (j:=5) (k:=2) (by decide)
   rw [← hup.at hra.2] at hld
   rw [← hup.at hrb.2] at f5
   have hia:=fun w=>ia28 w ⟨bb,off,sq⟩ acts.length c .i64 i hlt
   simp only [Nat.mul_one] at hia
   have hib:=fun w=>ia22 w ⟨b2,off2,sq2⟩ r.length c2 .i64 n hn
   have hic:=fun w=>ia43 w ⟨we.next + 1 + 1,0,none⟩ acts.length acts.length .i64 i hlt
   have hw1:IntKind.wrap .i64 ((i:Int) + 1)=(i:Int) + 1:=wrap64_in (by omega) (by omega)
   have hLi:(lossL r acts)[i]?=some (x.ll,x.lh):=by
    unfold lossL
    rw [List.getElem?_map,ha]
    simp [hx]
   have hps:=part_set hLi
   have hfs:=flat_set spC_length (partL (lossL r acts) (lossL r acts).length i) i (x.ll,x.lh) (by rw [part_length (by omega)]; omega)
   rw [hps] at hfs
   have hfl:((partL (lossL r acts) (lossL r acts).length i).flatMap spC).length=acts.length * 2:=by rw [flat_length spC_length,part_length (by omega),hLl]
   obtain ⟨cs,hcs⟩:∃ cs,cs=(partL (lossL r acts) (lossL r acts).length i).flatMap spC:=⟨_,rfl⟩
   rw [← hcs] at hB hfs hfl
   simp only [spC,List.cons_append,List.nil_append] at hfs
   have q2:w.lim≤we.next + 1 + 1:=by omega
   have q3:i * 2 + 2≤acts.length * 2:=by omega
   have n1:¬ we.next + 1 + 1 + 1=we.next + 1 + 1:=by omega
   have n2:¬ we.next + 1=we.next + 1 + 1:=by omega
   simp [mc57_l0,t0,t2,t6,t7,t15,t16,hlt,h7,hia,hld,hib,f5,hic,hB,hfl,q2,q3,hw1,hfs]
   exact ⟨by omega,h6,hup.put (by omega) (Nat.le_refl _),hnx,hlt⟩
  ·have hi':i=acts.length:=by omega
   subst hi'
   have q2:w.lim≤we.next + 1:=by omega
   rw [← hLl,part_full] at hB
   simp [mc57_l0,t6,t7,t15,t16,h7,h6,q2,tupV]
   refine ⟨_,rfl,⟨we.next + 1 + 1,by rw [hLl],?_,by show we.next + 1 + 1 < w.next; omega⟩,hup.put (by omega) (Nat.le_refl _)⟩
   show (w.heap.put (we.next + 1) _).get (we.next + 1 + 1)=_
   rw [get_put,if_neg (by omega),hB]
end Go.Proofs.YtlkklcbjjompbaaDoor.walk
namespace Go.Proofs.YtlkklcbjjompbaaDoor.walk
open Go Go.Sh
set_option maxRecDepth 100000
set_option linter.unusedSimpArgs false
structure TruOk (b:CBox) (L:List Sp):Prop where
 box:boxB b=true
 len:L.length≤14
 sp:∀ p ∈ L,0≤p.1∧p.2≤10000
end Go.Proofs.YtlkklcbjjompbaaDoor.walk
namespace Go.Proofs.YtlkklcbjjompbaaDoor.walk
open Go Go.Sh
set_option maxRecDepth 100000
set_option linter.unusedSimpArgs false
end Go.Proofs.YtlkklcbjjompbaaDoor.walk
namespace Go.Proofs.YtlkklcbjjompbaaDoor.walk
open Go Go.Sh
set_option maxRecDepth 100000
set_option linter.unusedSimpArgs false
theorem tru_ok {r:List CAct} {d:List CDay} {b:CBox} {acts:List Int} (h:actE r d b acts=0):TruOk b (lossL r acts)∧acts.length≤14∧∀ a ∈ acts,0≤a∧∃ x,r[a.toNat]?=some x:=by
 obtain ⟨hR,hD,hB,s,hs⟩:=act_ofE h
 have hl:=stg_len hR hs
 have hd:=days_len hD
 have ha:=stg_acts _ _ _ hs
 refine ⟨⟨hB,by simp [lossL]; omega,fun p hp=>?_⟩,by omega,ha⟩
 simp only [lossL,List.mem_map] at hp
 obtain ⟨a,ham,rfl⟩:=hp
 obtain ⟨_,x,hx⟩:=ha a ham
 rw [hx]
 obtain ⟨_,_,k,_⟩:=act_of hR hx
 simp only [spanI,Bool.and_eq_true,decide_eq_true_eq] at k
 simp only; omega
end Go.Proofs.YtlkklcbjjompbaaDoor.walk
namespace Go.Proofs.YtlkklcbjjompbaaDoor.walk
open Go Go.Sh
set_option maxRecDepth 100000
set_option linter.unusedSimpArgs false
end Go.Proofs.YtlkklcbjjompbaaDoor.walk
namespace Go.Proofs.YtlkklcbjjompbaaDoor.walk
open Go Go.Sh
set_option maxRecDepth 100000
set_option linter.unusedSimpArgs false
theorem lim_same:sameL5 limC limC=true:=by kernel_rfl
theorem hasAll_lim {w:AW} (h:LimAt w):hasAll w laidL=true:=by
 obtain ⟨ro,h⟩:=h
 have h1:hasB w (0,limC,141)=true:=by
  unfold hasB
  simp only [h,lim_same,Nat.beq_refl,Bool.and_self]
 show (bif hasB w (0,limC,141) then true else false)=true
 rw [h1]; rfl
def HasW (ov:Ov):Prop:=∀ w,LimAt w→ov 19 [] w=some (.ok (.ret (.bool true)) w .none)
theorem ruleW {ov:Ov} (h:HasW ov) (m:Nat) {w:AW} (hw:LimAt w):(run Tryd.prog ov (m + 1)).call 19 [] w .none=.ok (.ret (.bool true)) w .none:=by
 show stepO Tryd.prog (run Tryd.prog ov m) 19 [] w .none (ov 19 [] w)=_
 rw [h w hw]; rfl
def curC (rv dv:Value) (b:CBox) (av:Value):List Value:=[rv,dv,.int .i64 b.wl,.int .i64 b.wh,.int .i64 b.sl,.int .i64 b.sh,av]
end Go.Proofs.YtlkklcbjjompbaaDoor.walk
