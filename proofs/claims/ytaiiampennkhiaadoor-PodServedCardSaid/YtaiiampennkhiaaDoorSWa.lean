/- Part of a proof by a machine of ones own: see the text with the theorem. -/
import Derived.Test.YtaiiampennkhiaaDoorShF
import Derived.Test.YtaiiampennkhiaaDoorST
import Derived.Test.YtaiiampennkhiaaDoorRWb
namespace Go.Sh
section
variable {α:Type} (key:α→Int)
def SortTo (L:List α) (n:Nat):Prop:=∀ x y a b,x < y→y < n→L[x]?=some a→L[y]?=some b→key a≤key b
def SortX (L:List α) (n j:Nat):Prop:=(∀ x y a b,x < y→y < n→x ≠ j→y ≠ j→L[x]?=some a→L[y]?=some b→key a≤key b)∧(∀ y a b,j < y→y < n→L[j]?=some a→L[y]?=some b→key a≤key b)
def swapL (L:List α) (j:Nat) (a b:α):List α:=(L.set (j + 1) a).set j b
theorem swap_at {L:List α} {j:Nat} (h:j + 1 < L.length) (a b:α) (x:Nat):(swapL L j a b)[x]?=if x=j then some b else if x=j + 1 then some a else L[x]?:=by
 unfold swapL
 by_cases h1:x=j
 ·subst h1; rw [if_pos rfl,List.getElem?_set_self (by rw [List.length_set]; omega)]
 ·rw [if_neg h1,List.getElem?_set_ne (Ne.symm h1)]
  by_cases h2:x=j + 1
  ·subst h2; rw [if_pos rfl,List.getElem?_set_self h]
  ·rw [if_neg h2,List.getElem?_set_ne (Ne.symm h2)]
theorem swap_perm:∀ {L:List α} {j:Nat} {a b:α},L[j]?=some a→L[j + 1]?=some b→(swapL L j a b).Perm L
 | [],_,_,_,h,_=>by simp at h
 | [_],0,_,_,_,h=>by simp at h
 | x::y::L,0,a,b,h1,h2=>by
  simp at h1 h2
  subst h1 h2
  exact List.Perm.swap _ _ _
 | x::L,j + 1,a,b,h1,h2=>by
  have h1':L[j]?=some a:=by simpa using h1
  have h2':L[j + 1]?=some b:=by simpa using h2
  have:=swap_perm h1' h2'
  exact List.Perm.cons x this
variable {key}
theorem sortX_start {L:List α} {i:Nat} (h:SortTo key L i):SortX key L (i + 1) i :=
 ⟨fun x y a b h1 h2 h3 h4 h5 h6=>h x y a b h1 (by omega) h5 h6,fun y a b h1 h2=>absurd h1 (by omega)⟩
theorem sortX_step {L:List α} {n j:Nat} {a b:α} (h:SortX key L n (j + 1)) (hl:j + 1 < L.length) (ha:L[j]?=some a) (hb:L[j + 1]?=some b) (hk:key b < key a):SortX key (swapL L j a b) n j:=by
 refine ⟨fun x y c d h1 h2 h3 h4 h5 h6=>?_,fun y c d h1 h2 h5 h6=>?_⟩
 ·rw [swap_at hl,if_neg h3] at h5
  rw [swap_at hl,if_neg h4] at h6
  by_cases e1:x=j + 1
  ·rw [if_pos e1] at h5
   rw [if_neg (by omega)] at h6
   cases h5
   exact h.1 j y a d (by omega) h2 (by omega) (by omega) ha h6
  ·rw [if_neg e1] at h5
   by_cases e2:y=j + 1
   ·rw [if_pos e2] at h6
    cases h6
    exact h.1 x j c a (by omega) (by omega) e1 (by omega) h5 ha
   ·rw [if_neg e2] at h6
    exact h.1 x y c d h1 h2 e1 e2 h5 h6
 ·rw [swap_at hl,if_pos rfl] at h5
  cases h5
  rw [swap_at hl,if_neg (by omega)] at h6
  by_cases e2:y=j + 1
  ·rw [if_pos e2] at h6
   cases h6
   omega
  ·rw [if_neg e2] at h6
   exact h.2 y b d (by omega) h2 hb h6
theorem sortX_stop {L:List α} {n j:Nat} (h:SortX key L n j) (hs:∀ j' a b,j=j' + 1→L[j']?=some a→L[j]?=some b→key a≤key b) (hl:j < L.length):SortTo key L n:=by
 intro x y a b h1 h2 h3 h4
 by_cases e1:x=j
 ·subst e1; exact h.2 y a b h1 h2 h3 h4
 ·by_cases e2:y=j
  ·subst e2
   obtain ⟨j',rfl⟩:∃ j',y=j' + 1:=⟨y - 1,by omega⟩
   obtain ⟨c,hc⟩:∃ c,L[j']?=some c:=⟨_,List.getElem?_eq_getElem (by omega)⟩
   have k1:=hs j' c b rfl hc h4
   by_cases e3:x=j'
   ·subst e3
    rw [h3] at hc; cases hc
    exact k1
   ·have:=h.1 x j' a c (by omega) (by omega) e1 (by omega) h3 hc
    omega
  ·exact h.1 x y a b h1 h2 e1 e2 h3 h4
theorem sortTo_one (L:List α):SortTo key L 1:=fun x y _ _ h1 h2=>by omega
theorem sortTo_zero (L:List α):SortTo key L 0:=fun x y _ _ h1 h2=>by omega
end
def fnd:List Int→Int→Int→Int
 | [],_,_ => -1
 | a::t,x,k=>if a=x then k else fnd t x (k + 1)
theorem fnd_mem:∀ (L:List Int) (x k:Int),0≤k→(x ∈ L→k≤fnd L x k)∧(x ∉ L→fnd L x k = -1)
 | [],x,k,_=>⟨fun h=>by simp at h,fun _=>rfl⟩
 | a::t,x,k,hk=>by
  have ih:=fnd_mem t x (k + 1) (by omega)
  unfold fnd
  by_cases e:a=x
  ·rw [if_pos e]
   exact ⟨fun _=>Int.le_refl _,fun h=>absurd (by simp [e]) h⟩
  ·rw [if_neg e]
   refine ⟨fun h=>?_,fun h=>ih.2 fun h'=>h (List.mem_cons_of_mem _ h')⟩
   rcases List.mem_cons.1 h with h' | h'
   ·exact absurd h'.symm e
   ·have:=ih.1 h'; omega
theorem fnd_drop {L:List Int} {i:Nat} {a:Int} (h:L[i]?=some a) (x k:Int):fnd (L.drop i) x k=if a=x then k else fnd (L.drop (i + 1)) x (k + 1):=by
 obtain ⟨hi,he⟩:=List.getElem?_eq_some_iff.1 h
 rw [List.drop_eq_getElem_cons hi,he]
 rfl
end Go.Sh
namespace Go.Proofs.YtaiiampennkhiaaDoor.walk
open Go Go.Sh
open known (partsC laidL noOv)
set_option maxRecDepth 100000
set_option linter.unusedSimpArgs false
def mkErr (l:List Pod) (a b:Int):Int:=bif podsB l then (bif spanI a b 0 2000 then 0 else 31) else 30
noncomputable def F59:PureF:=fun args w=>match args with | [v,.agg ⟨[.int .i64 a,.int .i64 b]⟩]=>(podsIn w v).map fun l=>.int .i64 (mkErr l a b) | _=>none
theorem rule59 {ov:Ov} {f:FuncId} (k:HasP ov f F59) {v:Value} {l:List Pod} (a b:Int) (m:Nat) {w:AW} (hv:podsIn w v=some l):(run Tryd.prog ov (m + 1)).call f [v,.agg ⟨[.int .i64 a,.int .i64 b]⟩] w .none=.ok (.ret (.int .i64 (mkErr l a b))) w .none:=k.call (by simp [F59,hv])
theorem run59 {ov:Ov} (ho:∀ args w,ov 59 args w=none) (h14:HasP ov 14 F14) (h79:HasP ov 79 F46) (l:List Pod) (a b:Int) (v:Value) (w:AW) (hv:PodsV w v l):∃ x w',(run Tryd.prog ov 2).call 59 [v,.agg ⟨[.int .i64 a,.int .i64 b]⟩] w .none=.ok (.ret x) w' .none∧x=.int .i64 (mkErr l a b):=by
 refine call_wp text59 (by simp) (ho _ _) ?_
 have o1:Old w.next w.heap (w.heap.put w.next (some (.cells [.int .i64 a,.int .i64 b] 26 false))):=(Old.refl _ _).put (Nat.le_refl _)
 have hv1:PodsV ⟨w.heap.put w.next (some (.cells [.int .i64 a,.int .i64 b] 26 false)),w.next + 1,w.lim⟩ v l:=hv.old o1 (Nat.le_succ _)
 have r14:=rule14 h14 hv1.podsIn
 have r79:=rule79 h79
 cases hB:podsB l with
 | false=>simp [mc59,r14,hB,errB,tupV,mkErr]
 | true=>cases hS:spanI a b 0 2000 <;> simp [mc59,r14,hB,errB,r79,hS,tupV,mkErr]
noncomputable def F103:PureF:=fun args _=>match args with | [.int .i64 _]=>some (.bool false) | _=>none
theorem rule103 {ov:Ov} (h:HasP ov 103 F103) (a:Int) (m:Nat) (w:AW):(run Tryd.prog ov (m + 1)).call 103 [.int .i64 a] w .none=.ok (.ret (.bool false)) w .none:=h.call rfl
theorem run103 {ov:Ov} (ho:∀ args w,ov 103 args w=none) (a:Int) (w:AW):∃ x w',(run Tryd.prog ov 2).call 103 [.int .i64 a] w .none=.ok (.ret x) w' .none∧x=.bool false:=by
 refine call_wp text103 (by simp) (ho _ _) ?_
 simp [mc103,tupV]
def cmpI (a b:Int):Int:=if a < b then -1 else if b < a then 1 else 0
noncomputable def F94:PureF:=fun args _=>match args with | [.int .i64 a,.int .i64 b]=>some (.int .i64 (cmpI a b)) | _=>none
theorem rule94 {ov:Ov} (h:HasP ov 94 F94) (a b:Int) (m:Nat) (w:AW):(run Tryd.prog ov (m + 1)).call 94 [.int .i64 a,.int .i64 b] w .none=.ok (.ret (.int .i64 (cmpI a b))) w .none:=h.call rfl
theorem run94 {ov:Ov} (ho:∀ args w,ov 94 args w=none) (h103:HasP ov 103 F103) (a b:Int) (w:AW):∃ x w',(run Tryd.prog ov 2).call 94 [.int .i64 a,.int .i64 b] w .none=.ok (.ret x) w' .none∧x=.int .i64 (cmpI a b):=by
 refine call_wp text94 (by simp) (ho _ _) ?_
 have r103:=fun a w=>rule103 h103 a 0 w
 simp only [Nat.zero_add] at r103
 by_cases h1:a < b
 ·simp [mc94,r103,h1,tupV,cmpI]
 ·by_cases h2:b < a <;> simp [mc94,r103,h1,h2,tupV,cmpI]
noncomputable def F110:PureF:=fun args _=>match args with | [.int .i64 a,.int .i64 b]=>some (.bool (decide (a < b))) | _=>none
theorem rule110 {ov:Ov} (h:HasP ov 110 F110) (a b:Int) (m:Nat) (w:AW):(run Tryd.prog ov (m + 1)).call 110 [.int .i64 a,.int .i64 b] w .none=.ok (.ret (.bool (decide (a < b)))) w .none:=h.call rfl
theorem run110 {ov:Ov} (ho:∀ args w,ov 110 args w=none) (h103:HasP ov 103 F103) (a b:Int) (w:AW):∃ x w',(run Tryd.prog ov 2).call 110 [.int .i64 a,.int .i64 b] w .none=.ok (.ret x) w' .none∧x=.bool (decide (a < b)):=by
 refine call_wp text110 (by simp) (ho _ _) ?_
 have r103:=fun a w=>rule103 h103 a 0 w
 simp only [Nat.zero_add] at r103
 by_cases h1:a < b <;> simp [mc110,r103,h1,tupV]
noncomputable def F81:PureF:=fun args _=>match args with | [.agg ⟨l⟩]=>(podOfC l).map fun o=>.int .i64 (oH o) | _=>none
theorem rule81 {ov:Ov} (h:HasP ov 81 F81) (o:Off) (m:Nat) (w:AW):(run Tryd.prog ov (m + 1)).call 81 [.agg ⟨offC o⟩] w .none=.ok (.ret (.int .i64 (oH o))) w .none:=h.call (by simp [F81,podOfC_C])
theorem run81 {ov:Ov} (ho:∀ args w,ov 81 args w=none) (h85:HasP ov 85 F85) (o:Off) (w:AW):∃ x w',(run Tryd.prog ov 2).call 81 [.agg ⟨offC o⟩] w .none=.ok (.ret x) w' .none∧x=.int .i64 (oH o):=by
 refine call_wp text81 (by simp) (ho _ _) ?_
 have r85:=fun w=>rule85 h85 o 0 w
 simp only [Nat.zero_add] at r85
 simp [mc81,r85,tupV]
theorem loop96 {ov:Ov} (L:List Int) (hlen:L.length≤100) (x:Int) (u:Value) (w:AW) (hu:RowsV intC w u L) (m:Nat)
  (Q:Ex→Tm→AW→Prop) (t:Tm) (t0:tget t 0=u) (t1:tget t 1=.int .i64 x) (t7:tget t 7=.int .i64 (L.length:Nat)) (t8:tget t 8=.int .i64 0)
  (hyes:∀ t,fnd L x 0 = -1→Q (.exit 0) t w) (hno:∀ t,tget t 4=.int .i64 (fnd L x 0)→Q .ret t w):wp (exM Tryd.prog (run Tryd.prog ov m) (.loop mc96_l0) t w) Q:=by
 refine wp_rounds (fun i t w'=>w'=w∧tget t 0=u∧tget t 1=.int .i64 x∧tget t 7=.int .i64 (L.length:Nat)∧tget t 8=.int .i64 (i:Nat)∧i≤L.length∧fnd L x 0=fnd (L.drop i) x i) 200 (by decide) ⟨rfl,t0,t1,t7,t8,Nat.zero_le _,rfl⟩ ?_
 clear t0 t1 t7 t8
 rintro i t w' ⟨rfl,t0,t1,t7,t8,hi,hf⟩
 by_cases hlt:i < L.length
 ·obtain ⟨d,hd⟩:∃ d,L[i]?=some d:=⟨_,List.getElem?_eq_getElem hlt⟩
  obtain ⟨b,off,sq,c,rfl,hr⟩:=hu.at_ i hlt
  have hld:=hr.int hd
  have hia:=fun w=>ia33 w ⟨b,off,sq⟩ L.length c .i64 i hlt
  have hw1:IntKind.wrap .i64 ((i:Int) + 1)=(i:Int) + 1:=wrap64_in (by omega) (by omega)
  rw [fnd_drop hd] at hf
  by_cases h1:x=d
  ·subst h1
   rw [if_pos rfl] at hf
   simp [mc96_l0,t0,t1,t7,t8,hlt,hia,hld]
   exact hno _ (by simp [hf])
  ·rw [if_neg (Ne.symm h1)] at hf
   simp [mc96_l0,t0,t1,t7,t8,hlt,hia,hld,h1,hw1]
   exact ⟨by omega,hlt,hf⟩
 ·have hi':i=L.length:=by omega
  subst hi'
  simp [mc96_l0,t7,t8]
  refine hyes _ ?_
  rw [hf,List.drop_length]; rfl
theorem run96 {ov:Ov} (ho:∀ args w,ov 96 args w=none) (L:List Int) (hlen:L.length≤100) (x:Int) (u:Value) (w:AW) (hu:RowsV intC w u L):∃ y w',(run Tryd.prog ov 2).call 96 [u,.int .i64 x] w .none=.ok (.ret y) w' .none∧y=.int .i64 (fnd L x 0):=by
 refine call_wp text96 (by simp) (ho _ _) ?_
 have hl:=len33V hu
 simp [mc96,hl]
 refine wp_seqX (wp_blockX (loop96 L hlen x u w hu 1 _ _ ?_ ?_ ?_ ?_ ?_ ?_))
 case _=>simp
 case _=>simp
 case _=>simp
 case _=>simp
 case _=>intro t h; simp [h,tupV]
 case _=>intro t h; simp [h,tupV]
noncomputable def F96:PureF:=fun args w=>match args with | [u,.int .i64 x]=>(rowsIn intC w u).bind fun L=>bif decide (L.length≤100) then some (.int .i64 (fnd L x 0)) else none | _=>none
theorem rule96 {ov:Ov} {f:FuncId} (k:HasP ov f F96) {u:Value} {L:List Int} (hlen:L.length≤100) (x:Int) {w:AW} (hu:RowsV intC w u L) (m:Nat):(run Tryd.prog ov (m + 1)).call f [u,.int .i64 x] w .none=.ok (.ret (.int .i64 (fnd L x 0))) w .none:=k.call (by
 simp [F96,hu.rowsIn (m:=1) intC_length intC_inj,hlen])
theorem run83 {ov:Ov} (ho:∀ args w,ov 83 args w=none) (h96:HasP ov 96 F96) (L:List Int) (hlen:L.length≤100) (x:Int) (u:Value) (w:AW) (hu:RowsV intC w u L):∃ y w',(run Tryd.prog ov 2).call 83 [u,.int .i64 x] w .none=.ok (.ret y) w' .none∧y=.bool (decide (x ∈ L)):=by
 refine call_wp text83 (by simp) (ho _ _) ?_
 have r96:=rule96 h96 hlen x hu 0
 simp only [Nat.zero_add] at r96
 obtain ⟨k1,k2⟩:=fnd_mem L x 0 (Int.le_refl 0)
 by_cases h:x ∈ L
 ·have:=k1 h
  simp [mc83,r96,this,h,tupV]
 ·have:=k2 h
  simp [mc83,r96,this,h,tupV]
noncomputable def F83:PureF:=fun args w=>match args with | [u,.int .i64 x]=>(rowsIn intC w u).bind fun L=>bif decide (L.length≤100) then some (.bool (decide (x ∈ L))) else none | _=>none
theorem rule83 {ov:Ov} (k:HasP ov 83 F83) {u:Value} {L:List Int} (hlen:L.length≤100) (x:Int) {w:AW} (hu:RowsV intC w u L) (m:Nat):(run Tryd.prog ov (m + 1)).call 83 [u,.int .i64 x] w .none=.ok (.ret (.bool (decide (x ∈ L)))) w .none:=k.call (by
 simp [F83,hu.rowsIn (m:=1) intC_length intC_inj,hlen])
end Go.Proofs.YtaiiampennkhiaaDoor.walk
namespace Go.Proofs.YtaiiampennkhiaaDoor.walk
open Go Go.Sh
open known (partsC laidL noOv)
set_option maxRecDepth 100000
set_option linter.unusedSimpArgs false
structure InS {α:Type} (f:α→List Value) (e:TypeId) (w0:AW) (B:Nat) (L:List α) (w:AW):Prop where
 row:w.heap.get B=some (.cells (L.flatMap f) e false)
 old:∀ x,x < w0.next→x ≠ B→w.heap.get x=w0.heap.get x
 next:w0.next≤w.next
 lim:w.lim=w0.lim
set_option maxHeartbeats 2000000 in
theorem loop104b {ov:Ov} (m:Nat) (h110:HasP ov 110 F110) (n:Nat) (hn:n≤100) (i:Nat) (hi:i < n) (B:Nat) (w0:AW) (hl:w0.lim≤B) (v2:Value) (L0:List Int) (hL0:L0.length=n) (hs:SortTo id L0 i)
  (Q:Ex→Tm→AW→Prop) (t:Tm) (w:AW) (hw:InS intC 3 w0 B L0 w)
  (t0:tget t 0=.slice (some ⟨B,0,none⟩) n n) (t1:tget t 1=.int .i64 0) (t2:tget t 2=v2) (t6:tget t 6=.int .i64 (i:Nat)) (t7:tget t 7=.int .i64 (i:Nat))
  (hQ:∀ t w L,InS intC 3 w0 B L w→L.Perm L0→SortTo id L (i + 1)→tget t 0=.slice (some ⟨B,0,none⟩) n n→tget t 1=.int .i64 0→tget t 2=v2→tget t 6=.int .i64 (i:Nat)→Q (.exit 2) t w) :
  wp (exM Tryd.prog (run Tryd.prog ov (m + 1)) (.loop mc104_l1) t w) Q:=by
 refine wp_rounds (fun r t w=>∃ j L,j + r=i∧InS intC 3 w0 B L w∧L.Perm L0∧SortX id L (i + 1) j∧tget t 0=.slice (some ⟨B,0,none⟩) n n∧tget t 1=.int .i64 0∧tget t 2=v2∧tget t 6=.int .i64 (i:Nat)∧tget t 7=.int .i64 (j:Nat)) 200 (by decide) ⟨i,L0,rfl,hw,List.Perm.refl _,sortX_start hs,t0,t1,t2,t6,t7⟩ ?_
 clear t0 t1 t2 t6 t7 hw hs
 rintro r t w ⟨j,L,hj,hw,hp,hs,t0,t1,t2,t6,t7⟩
 have hlen:L.length=n:=by rw [hp.length_eq,hL0]
 have r110:=fun a b w=>rule110 h110 a b m w
 have hlm:=hw.lim
 rcases Nat.eq_zero_or_pos j with rfl | hpos
 ·obtain ⟨k,hk⟩:∃ k:Int,k=((0:Nat):Int):=⟨_,rfl⟩
  rw [← hk] at t7
  have hp0:¬ 0 < k:=by omega
  simp [mc104_l1,t0,t1,t7,hp0]
  exact hQ _ _ L hw hp (sortX_stop hs (fun j' a b h=>by omega) (by omega)) (by simp [t0]) (by simp [t1]) (by simp [t2]) (by simp [t6])
 ·obtain ⟨j,rfl⟩:∃ j',j=j' + 1:=⟨j - 1,by omega⟩
  obtain ⟨a,ha⟩:∃ d,L[j]?=some d:=⟨_,List.getElem?_eq_getElem (by omega)⟩
  obtain ⟨b,hb⟩:∃ d,L[j + 1]?=some d:=⟨_,List.getElem?_eq_getElem (by omega)⟩
  have hia:=fun w=>ia33 w ⟨B,0,none⟩ n n .i64 j (by omega)
  have hib:=fun w=>ia33 w ⟨B,0,none⟩ n n .i64 (j + 1) (by omega)
  have w3:IntKind.wrap .i64 (((j + 1:Nat):Int) - 1)=(j:Int):=by rw [wrap64_in (by omega) (by omega)]; omega
  have hp0:(0:Int) < ((j + 1:Nat):Int):=by omega
  obtain ⟨k,hk⟩:∃ k:Int,k=((j + 1:Nat):Int):=⟨_,rfl⟩
  rw [← hk] at w3 hp0 t7 hib
  have hrow:=hw.row
  have hra:RowsA intC w.heap (B + 1) B 0 L:=⟨⟨[],[],3,false,by simpa using hrow,rfl⟩,Nat.lt_succ_self _⟩
  have hla:=hra.int ha
  have hlb:=hra.int hb
  rw [Nat.zero_add] at hla hlb
  obtain ⟨cs,hcs⟩:∃ cs,cs=L.flatMap intC:=⟨_,rfl⟩
  rw [← hcs] at hrow
  rw [hrow,rd1O_cells] at hla hlb
  by_cases hc:b < a
  ·have hset1:=flat_set intC_length L (j + 1) a (by omega)
   have hset2:=flat_set intC_length (L.set (j + 1) a) j b (by rw [List.length_set]; omega)
   have hfl:(L.flatMap intC).length=n:=by rw [flat_length intC_length,hlen]; omega
   have hfl1:((L.set (j + 1) a).flatMap intC).length=n:=by rw [flat_length intC_length,List.length_set,hlen]; omega
   have hsw:(L.set (j + 1) a).set j b=swapL L j a b:=rfl
   rw [hsw] at hset2
   obtain ⟨cs1,hcs1⟩:∃ cs,cs=(L.set (j + 1) a).flatMap intC:=⟨_,rfl⟩
   obtain ⟨cs2,hcs2⟩:∃ cs,cs=(swapL L j a b).flatMap intC:=⟨_,rfl⟩
   rw [← hcs] at hset1 hfl
   rw [← hcs1] at hset1 hset2 hfl1
   rw [← hcs2] at hset2
   simp only [Nat.mul_one,intC,List.cons_append,List.nil_append] at hset1 hset2
   have hf1:j + 1 + 1≤n:=by omega
   have hf2:j + 1≤n:=by omega
   have l2:w.lim≤B:=by omega
   simp [mc104_l1,t0,t1,t7,hp0,w3,hia,hib,hla,hlb,r110,hc,hrow,hfl,hfl1,hf1,hf2,hset1,hset2,l2]
   refine ⟨by omega,j,by omega,swapL L j a b,⟨?_,fun x hx hB=>?_,hw.next,hlm⟩,(swap_perm ha hb).trans hp,sortX_step hs (by omega) ha hb hc,?_⟩
   ·simp [hcs2]
   ·simp [hB]; exact hw.old x hx hB
   ·simp [t2,t6]
  ·simp [mc104_l1,t0,t1,t7,hp0,w3,hia,hib,hla,hlb,r110,hc,hrow]
   exact hQ _ _ L hw hp (sortX_stop hs (fun j' a' b' h h1 h2=>by
    obtain rfl:j'=j:=by omega
    rw [ha] at h1; rw [hb] at h2
    cases h1; cases h2
    simpa using hc) (by omega)) (by simp [t0]) (by simp [t1]) (by simp [t2]) (by simp [t6])
theorem loop104a {ov:Ov} (m:Nat) (h110:HasP ov 110 F110) (n:Nat) (hn:n≤100) (B:Nat) (w0:AW) (hl:w0.lim≤B) (L0:List Int) (hL0:L0.length=n)
  (Q:Ex→Tm→AW→Prop) (t:Tm) (w:AW) (hw:InS intC 3 w0 B L0 w)
  (t0:tget t 0=.slice (some ⟨B,0,none⟩) n n) (t1:tget t 1=.int .i64 0) (t2:tget t 2=.int .i64 (n:Nat)) (t6:tget t 6=.int .i64 1)
  (hQ:∀ t w L,InS intC 3 w0 B L w→L.Perm L0→SortTo id L n→Q (.exit 0) t w) :
  wp (exM Tryd.prog (run Tryd.prog ov (m + 1)) (.loop mc104_l0) t w) Q:=by
 refine wp_rounds (fun r t w=>∃ L,InS intC 3 w0 B L w∧L.Perm L0∧SortTo id L (r + 1)∧tget t 0=.slice (some ⟨B,0,none⟩) n n∧tget t 1=.int .i64 0∧tget t 2=.int .i64 (n:Nat)∧tget t 6=.int .i64 ((r + 1:Nat):Int)∧(r≤n)) 200 (by decide) ⟨L0,hw,List.Perm.refl _,sortTo_one _,t0,t1,t2,by simpa using t6,Nat.zero_le _⟩ ?_
 clear t0 t1 t2 t6 hw
 rintro r t w ⟨L,hw,hp,hs,t0,t1,t2,t6,hr⟩
 by_cases hlt:r + 1 < n
 ·have hlt':((r + 1:Nat):Int) < (n:Int):=by omega
  have hw1:IntKind.wrap .i64 (((r + 1:Nat):Int) + 1)=((r + 1 + 1:Nat):Int):=by rw [wrap64_in (by omega) (by omega)]; omega
  obtain ⟨k,hk⟩:∃ k:Int,k=((r + 1:Nat):Int):=⟨_,rfl⟩
  rw [← hk] at t6 hlt' hw1
  simp [mc104_l0,t2,t6,hlt']
  refine wp_seqX (wp_blockX (wp_blockX (loop104b m h110 n hn (r + 1) hlt B w0 hl (.int .i64 (n:Nat)) L (by rw [hp.length_eq,hL0]) hs _ _ _ hw ?_ ?_ ?_ ?_ ?_ ?_)))
  case _=>simp [t0]
  case _=>simp [t1]
  case _=>simp [t2]
  case _=>simp [t6,hk]
  case _=>simp [hk]
  case _ =>
   intro t w L' hw' hp' hs' s0 s1 s2 s6
   rw [← hk] at s6
   simp [s0,s1,s2,s6,hw1]
   refine ⟨by omega,L',hw',hp'.trans hp,hs',?_⟩
   omega
 ·have hge:¬ ((r + 1:Nat):Int) < (n:Int):=by omega
  obtain ⟨k,hk⟩:∃ k:Int,k=((r + 1:Nat):Int):=⟨_,rfl⟩
  rw [← hk] at t6 hge
  simp [mc104_l0,t2,t6,hge]
  exact hQ _ _ L hw hp fun x y a b h1 h2=>hs x y a b h1 (by omega)
end Go.Proofs.YtaiiampennkhiaaDoor.walk
namespace Go.Proofs.YtaiiampennkhiaaDoor.walk
open Go Go.Sh
open known (partsC laidL noOv)
set_option maxRecDepth 100000
set_option linter.unusedSimpArgs false
theorem ixs9 (w:AW) (l:List UInt8) (j:Nat) (b:UInt8) (h:l[j]?=some b):indexA Tryd.prog w 9 (.string ⟨⟨l⟩⟩) (.int .u8 (j:Int))=.val (.int .u8 (b.toNat:Int)) w:=index_string (by kernel_rfl) _ _ j b h
def bitI (z:Nat):Int:=if z=0 then 0 else if z=1 then 1 else if z < 4 then 2 else if z < 8 then 3 else 4
theorem run114 {ov:Ov} (ho:∀ args w,ov 114 args w=none) (n:Nat) (hn:n≤12) (w:AW):∃ x w',(run Tryd.prog ov 2).call 114 [.int .u64 (n:Int)] w .none=.ok (.ret x) w' .none∧x=.int .i64 (bitI n):=by
 refine call_wp text114 (by simp) (ho _ _) ?_
 have hc:n=0∨n=1∨n=2∨n=3∨n=4∨n=5∨n=6∨n=7∨n=8∨n=9∨n=10∨n=11∨n=12:=by omega
 rcases hc with rfl | rfl | rfl | rfl | rfl | rfl | rfl | rfl | rfl | rfl | rfl | rfl | rfl
 ·have hw:IntKind.wrap .u8 0=0:=by decide
  have hv:IntKind.wrap .i64 0=0:=by decide
  have hix:∀ w (l:List UInt8),l[0]?=some 0→indexA Tryd.prog w 9 (.string ⟨⟨l⟩⟩) (.int .u8 0)=.val (.int .u8 0) w:=fun w l h=>ixs9 w l 0 0 h
  simp [mc114,tupV,hw,hv,hix,bitI]
 ·have hw:IntKind.wrap .u8 1=1:=by decide
  have hv:IntKind.wrap .i64 1=1:=by decide
  have hix:∀ w (l:List UInt8),l[1]?=some 1→indexA Tryd.prog w 9 (.string ⟨⟨l⟩⟩) (.int .u8 1)=.val (.int .u8 1) w:=fun w l h=>ixs9 w l 1 1 h
  simp [mc114,tupV,hw,hv,hix,bitI]
 ·have hw:IntKind.wrap .u8 2=2:=by decide
  have hv:IntKind.wrap .i64 2=2:=by decide
  have hix:∀ w (l:List UInt8),l[2]?=some 2→indexA Tryd.prog w 9 (.string ⟨⟨l⟩⟩) (.int .u8 2)=.val (.int .u8 2) w:=fun w l h=>ixs9 w l 2 2 h
  simp [mc114,tupV,hw,hv,hix,bitI]
 ·have hw:IntKind.wrap .u8 3=3:=by decide
  have hv:IntKind.wrap .i64 2=2:=by decide
  have hix:∀ w (l:List UInt8),l[3]?=some 2→indexA Tryd.prog w 9 (.string ⟨⟨l⟩⟩) (.int .u8 3)=.val (.int .u8 2) w:=fun w l h=>ixs9 w l 3 2 h
  simp [mc114,tupV,hw,hv,hix,bitI]
 ·have hw:IntKind.wrap .u8 4=4:=by decide
  have hv:IntKind.wrap .i64 3=3:=by decide
  have hix:∀ w (l:List UInt8),l[4]?=some 3→indexA Tryd.prog w 9 (.string ⟨⟨l⟩⟩) (.int .u8 4)=.val (.int .u8 3) w:=fun w l h=>ixs9 w l 4 3 h
  simp [mc114,tupV,hw,hv,hix,bitI]
 ·have hw:IntKind.wrap .u8 5=5:=by decide
  have hv:IntKind.wrap .i64 3=3:=by decide
  have hix:∀ w (l:List UInt8),l[5]?=some 3→indexA Tryd.prog w 9 (.string ⟨⟨l⟩⟩) (.int .u8 5)=.val (.int .u8 3) w:=fun w l h=>ixs9 w l 5 3 h
  simp [mc114,tupV,hw,hv,hix,bitI]
 ·have hw:IntKind.wrap .u8 6=6:=by decide
  have hv:IntKind.wrap .i64 3=3:=by decide
  have hix:∀ w (l:List UInt8),l[6]?=some 3→indexA Tryd.prog w 9 (.string ⟨⟨l⟩⟩) (.int .u8 6)=.val (.int .u8 3) w:=fun w l h=>ixs9 w l 6 3 h
  simp [mc114,tupV,hw,hv,hix,bitI]
 ·have hw:IntKind.wrap .u8 7=7:=by decide
  have hv:IntKind.wrap .i64 3=3:=by decide
  have hix:∀ w (l:List UInt8),l[7]?=some 3→indexA Tryd.prog w 9 (.string ⟨⟨l⟩⟩) (.int .u8 7)=.val (.int .u8 3) w:=fun w l h=>ixs9 w l 7 3 h
  simp [mc114,tupV,hw,hv,hix,bitI]
 ·have hw:IntKind.wrap .u8 8=8:=by decide
  have hv:IntKind.wrap .i64 4=4:=by decide
  have hix:∀ w (l:List UInt8),l[8]?=some 4→indexA Tryd.prog w 9 (.string ⟨⟨l⟩⟩) (.int .u8 8)=.val (.int .u8 4) w:=fun w l h=>ixs9 w l 8 4 h
  simp [mc114,tupV,hw,hv,hix,bitI]
 ·have hw:IntKind.wrap .u8 9=9:=by decide
  have hv:IntKind.wrap .i64 4=4:=by decide
  have hix:∀ w (l:List UInt8),l[9]?=some 4→indexA Tryd.prog w 9 (.string ⟨⟨l⟩⟩) (.int .u8 9)=.val (.int .u8 4) w:=fun w l h=>ixs9 w l 9 4 h
  simp [mc114,tupV,hw,hv,hix,bitI]
 ·have hw:IntKind.wrap .u8 10=10:=by decide
  have hv:IntKind.wrap .i64 4=4:=by decide
  have hix:∀ w (l:List UInt8),l[10]?=some 4→indexA Tryd.prog w 9 (.string ⟨⟨l⟩⟩) (.int .u8 10)=.val (.int .u8 4) w:=fun w l h=>ixs9 w l 10 4 h
  simp [mc114,tupV,hw,hv,hix,bitI]
 ·have hw:IntKind.wrap .u8 11=11:=by decide
  have hv:IntKind.wrap .i64 4=4:=by decide
  have hix:∀ w (l:List UInt8),l[11]?=some 4→indexA Tryd.prog w 9 (.string ⟨⟨l⟩⟩) (.int .u8 11)=.val (.int .u8 4) w:=fun w l h=>ixs9 w l 11 4 h
  simp [mc114,tupV,hw,hv,hix,bitI]
 ·have hw:IntKind.wrap .u8 12=12:=by decide
  have hv:IntKind.wrap .i64 4=4:=by decide
  have hix:∀ w (l:List UInt8),l[12]?=some 4→indexA Tryd.prog w 9 (.string ⟨⟨l⟩⟩) (.int .u8 12)=.val (.int .u8 4) w:=fun w l h=>ixs9 w l 12 4 h
  simp [mc114,tupV,hw,hv,hix,bitI]
end Go.Proofs.YtaiiampennkhiaaDoor.walk
namespace Go.Proofs.YtaiiampennkhiaaDoor.walk
open Go Go.Sh
open known (partsC laidL noOv)
set_option maxRecDepth 100000
set_option linter.unusedSimpArgs false
noncomputable def F114:PureF:=fun args _=>match args with | [.int .u64 z]=>bif inI 0 z 12 then some (.int .i64 (bitI z.toNat)) else none | _=>none
theorem rule114 {ov:Ov} {f:FuncId} (k:HasP ov f F114) {n:Nat} (hn:n≤12) (m:Nat) (w:AW):(run Tryd.prog ov (m + 1)).call f [.int .u64 (n:Int)] w .none=.ok (.ret (.int .i64 (bitI n))) w .none:=k.call (by
 have h:inI 0 (n:Int) 12=true:=by simp only [inI,Bool.and_eq_true,decide_eq_true_eq]; omega
 simp [F114,h])
theorem run98 {ov:Ov} (ho:∀ args w,ov 98 args w=none) (h114:HasP ov 114 F114) (n:Nat) (hn:n≤12) (w:AW):∃ x w',(run Tryd.prog ov 2).call 98 [.int .u64 (n:Int)] w .none=.ok (.ret x) w' .none∧x=.int .i64 (bitI n):=by
 refine call_wp text98 (by simp) (ho _ _) ?_
 have r114:=fun w=>rule114 h114 hn 0 w
 simp only [Nat.zero_add] at r114
 simp [mc98,tupV,r114]
def RowB {α:Type} (f:α→List Value) (e:TypeId) (w:AW) (v:Value) (B:Nat) (L:List α):Prop:=(L=[]∧v=.slice none 0 0)∨(v=.slice (some ⟨B,0,none⟩) L.length L.length∧w.heap.get B=some (.cells (L.flatMap f) e false))
theorem call104 {ov:Ov} (m:Nat) (ho:∀ args w,ov 104 args w=none) (h110:HasP ov 110 F110) (L:List Int) (hn:L.length≤100) (B:Nat) (v:Value) (w:AW) (hl:w.lim≤B) (hv:RowB intC 3 w v B L) :
  ∃ x w',(run Tryd.prog ov (m + 2)).call 104 [v,.int .i64 0,.int .i64 (L.length:Nat)] w .none=.ok (.ret x) w' .none∧x=.tuple ⟨[]⟩∧∃ L',RowB intC 3 w' v B L'∧L'.Perm L∧SortTo id L' L.length∧(∀ x,x < w.next→x ≠ B→w'.heap.get x=w.heap.get x)∧w.next≤w'.next∧w'.lim=w.lim:=by
 refine call_wp text104 (by simp) (ho _ _) ?_
 have w11:IntKind.wrap .i64 1=1:=by decide
 rcases hv with ⟨rfl,rfl⟩ | ⟨rfl,hB⟩
 ·simp [mc104]
  refine wp_blockX (wp_rounds (fun r t w'=>r=0∧w'=w∧tget t 6=.int .i64 1∧tget t 2=.int .i64 0) 5 (by decide) ⟨rfl,rfl,by simp [w11],by simp⟩ ?_)
  rintro r t w' ⟨rfl,rfl,t6,t2⟩
  simp [mc104_l0,t6,t2,tupV]
  exact ⟨[],.inl ⟨rfl,rfl⟩,rfl,sortTo_zero _⟩
 ·simp [mc104]
  refine wp_blockX (loop104a m h110 L.length hn B w hl L rfl _ _ _ ⟨hB,fun _ _ _=>rfl,Nat.le_refl _,rfl⟩ ?_ ?_ ?_ ?_ ?_)
  case _=>simp
  case _=>simp
  case _=>simp
  case _=>simp [w11]
  case _ =>
   intro t w' L' hw hp hs
   simp [tupV]
   exact ⟨L',.inr ⟨by rw [hp.length_eq],hw.row⟩,hp,hs,hw.old,hw.next,hw.lim⟩
theorem call97 {ov:Ov} (m:Nat) (ho:∀ args w,ov 97 args w=none) (ho104:∀ args w,ov 104 args w=none) (h110:HasP ov 110 F110) (L:List Int) (hn:L.length≤12) (z:Int) (B:Nat) (v:Value) (w:AW) (hl:w.lim≤B) (hv:RowB intC 3 w v B L) :
  ∃ x w',(run Tryd.prog ov (m + 3)).call 97 [v,.int .i64 0,.int .i64 (L.length:Nat),.int .i64 z] w .none=.ok (.ret x) w' .none∧x=.tuple ⟨[]⟩∧∃ L',RowB intC 3 w' v B L'∧L'.Perm L∧SortTo id L' L.length∧(∀ x,x < w.next→x ≠ B→w'.heap.get x=w.heap.get x)∧w.next≤w'.next∧w'.lim=w.lim:=by
 refine call_wp text97 (by simp) (ho _ _) ?_
 obtain ⟨x,w',hc,rfl,hx⟩:=call104 m ho104 h110 L (by omega) B v w hl hv
 have hn':(L.length:Int)≤12:=by omega
 have w1:IntKind.wrap .i64 ((L.length:Int) - 0)=(L.length:Int):=by rw [wrap64_in (by omega) (by omega)]; omega
 have w2:IntKind.wrap .i64 (L.length:Int)=(L.length:Int):=wrap64_in (by omega) (by omega)
 simp [mc97]
 refine wp_blockX (wp_rounds (fun r t w'=>r=0∧w'=w∧tget t 0=v∧tget t 1=.int .i64 0∧tget t 2=.int .i64 (L.length:Nat)) 5 (by decide) ⟨rfl,rfl,by simp,by simp,by simp⟩ ?_)
 rintro r t w1' ⟨rfl,rfl,t0,t1,t2⟩
 simp [mc97_l0,t0,t1,t2,w1,w2,hn',hc,tupV]
 exact hx
theorem call84 {ov:Ov} (m:Nat) (ho:∀ args w,ov 84 args w=none) (ho97:∀ args w,ov 97 args w=none) (ho104:∀ args w,ov 104 args w=none) (h98:HasP ov 98 F114) (h110:HasP ov 110 F110) (L:List Int) (hn:L.length≤12) (B:Nat) (v:Value) (w:AW) (hl:w.lim≤B) (hv:RowB intC 3 w v B L) :
  ∃ x w',(run Tryd.prog ov (m + 4)).call 84 [v] w .none=.ok (.ret x) w' .none∧x=.tuple ⟨[]⟩∧∃ L',RowB intC 3 w' v B L'∧L'.Perm L∧SortTo id L' L.length∧(∀ x,x < w.next→x ≠ B→w'.heap.get x=w.heap.get x)∧w.next≤w'.next∧w'.lim=w.lim:=by
 refine call_wp text84 (by simp) (ho _ _) ?_
 obtain ⟨x,w',hc,rfl,hx⟩:=call97 m ho97 ho104 h110 L hn (bitI L.length) B v w hl hv
 have r98:=fun w=>rule114 h98 hn (m + 2) w
 have hlv:∀ w,lenB Tryd.prog w 33 v=.val (.int .i64 (L.length:Nat)) w:=fun w=>by
  rcases hv with ⟨rfl,rfl⟩ | ⟨rfl,_⟩ <;> simp
 have w1:IntKind.wrap .u64 (L.length:Int)=(L.length:Int):=by
  have hc:L.length=0∨L.length=1∨L.length=2∨L.length=3∨L.length=4∨L.length=5∨L.length=6∨L.length=7∨L.length=8∨L.length=9∨L.length=10∨L.length=11∨L.length=12:=by omega
  rcases hc with h | h | h | h | h | h | h | h | h | h | h | h | h <;> rw [h] <;> decide
 simp [mc84,hlv,w1,r98,hc,tupV]
 exact hx
end Go.Proofs.YtaiiampennkhiaaDoor.walk
namespace Go.Proofs.YtaiiampennkhiaaDoor.walk
open Go Go.Sh
open known (partsC laidL noOv)
set_option maxRecDepth 100000
set_option linter.unusedSimpArgs false
@[simp] theorem cfn81 (w:AW) (l:List Value):callFn Tryd.prog w 81 l=.enter 81 l w:=callFn_of (by kernel_rfl) l
@[simp] theorem cfn93 (w:AW) (l:List Value):callFn Tryd.prog w 93 l=.enter 93 l w:=callFn_of (by kernel_rfl) l
def fun81:Value:=.func (.func 81) ⟨[]⟩ ⟨[]⟩
def fun93 (c:Nat):Value:=.func (.func 93) ⟨[]⟩ ⟨[.pointer (some ⟨c,0,none⟩)]⟩
def HasC (w:AW) (c:Nat):Prop:=w.heap.get c=some (.cells [fun81] 115 false)∧c < w.next
open Classical in
noncomputable def F93:PureF:=fun args w=>match args with | [.agg ⟨l⟩,.agg ⟨r⟩,.pointer (some ⟨c,0,none⟩)]=>(podOfC l).bind fun a=>(podOfC r).bind fun b=>if HasC w c then some (.int .i64 (cmpI (oH a) (oH b))) else none | _=>none
theorem rule93 {ov:Ov} (k:HasP ov 93 F93) (a b:Off) {c:Nat} {w:AW} (hc:HasC w c) (m:Nat):(run Tryd.prog ov (m + 1)).call 93 [.agg ⟨offC a⟩,.agg ⟨offC b⟩,.pointer (some ⟨c,0,none⟩)] w .none=.ok (.ret (.int .i64 (cmpI (oH a) (oH b)))) w .none:=k.call (by
 simp [F93,podOfC_C,hc])
theorem run93 {ov:Ov} (ho:∀ args w,ov 93 args w=none) (h81:HasP ov 81 F81) (h94:HasP ov 94 F94) (a b:Off) (c:Nat) (w:AW) (hc:HasC w c):∃ x w',(run Tryd.prog ov 2).call 93 [.agg ⟨offC a⟩,.agg ⟨offC b⟩,.pointer (some ⟨c,0,none⟩)] w .none=.ok (.ret x) w' .none∧x=.int .i64 (cmpI (oH a) (oH b)):=by
 refine call_wp text93 (by simp) (ho _ _) ?_
 have r81:=fun o w=>rule81 h81 o 0 w
 have r94:=fun a b w=>rule94 h94 a b 0 w
 simp only [Nat.zero_add] at r81 r94
 obtain ⟨hc1,hc2⟩:=hc
 have m0:¬ c=w.next:=by omega
 have m1:¬ c=w.next + 1:=by omega
 have s1:=fun o=>same_off o
 have s2:sameVal 5 (.func (.func 81) ⟨[]⟩ ⟨[]⟩) (.func (.func 81) ⟨[]⟩ ⟨[]⟩)=true:=rfl
 unfold fun81 at hc1
 simp [mc93,hc1,m0,m1,r81,r94,s1,s2,tupV,callV_func]
set_option maxHeartbeats 2000000 in
theorem loop115b {ov:Ov} (m:Nat) (h93:HasP ov 93 F93) (n:Nat) (hn:n≤100) (i:Nat) (hi:i < n) (B c:Nat) (hBc:c ≠ B) (w0:AW) (hc:HasC w0 c) (hl:w0.lim≤B) (v2:Value) (L0:List Off) (hL0:L0.length=n) (hs:SortTo oH L0 i)
  (Q:Ex→Tm→AW→Prop) (t:Tm) (w:AW) (hw:InS offC 114 w0 B L0 w)
  (t0:tget t 0=.slice (some ⟨B,0,none⟩) n n) (t1:tget t 1=.int .i64 0) (t2:tget t 2=v2) (t3:tget t 3=fun93 c) (t8:tget t 8=.int .i64 (i:Nat)) (t9:tget t 9=.int .i64 (i:Nat))
  (hQ:∀ t w L,InS offC 114 w0 B L w→L.Perm L0→SortTo oH L (i + 1)→tget t 0=.slice (some ⟨B,0,none⟩) n n→tget t 1=.int .i64 0→tget t 2=v2→tget t 3=fun93 c→tget t 8=.int .i64 (i:Nat)→Q (.exit 2) t w) :
  wp (exM Tryd.prog (run Tryd.prog ov (m + 1)) (.loop mc115_l1) t w) Q:=by
 refine wp_rounds (fun r t w=>∃ j L,j + r=i∧InS offC 114 w0 B L w∧L.Perm L0∧SortX oH L (i + 1) j∧tget t 0=.slice (some ⟨B,0,none⟩) n n∧tget t 1=.int .i64 0∧tget t 2=v2∧tget t 3=fun93 c∧tget t 8=.int .i64 (i:Nat)∧tget t 9=.int .i64 (j:Nat)) 200 (by decide) ⟨i,L0,rfl,hw,List.Perm.refl _,sortX_start hs,t0,t1,t2,t3,t8,t9⟩ ?_
 clear t0 t1 t2 t3 t8 t9 hw hs
 rintro r t w ⟨j,L,hj,hw,hp,hs,t0,t1,t2,t3,t8,t9⟩
 have hlen:L.length=n:=by rw [hp.length_eq,hL0]
 have hcw:HasC w c:=⟨by rw [hw.old c hc.2 hBc]; exact hc.1,by have:=hc.2; have:=hw.next; omega⟩
 have r93:=fun a b=>rule93 h93 a b hcw m
 have hlm:=hw.lim
 rcases Nat.eq_zero_or_pos j with rfl | hpos
 ·obtain ⟨k,hk⟩:∃ k:Int,k=((0:Nat):Int):=⟨_,rfl⟩
  rw [← hk] at t9
  have hp0:¬ 0 < k:=by omega
  simp [mc115_l1,t0,t1,t3,t9,hp0]
  exact hQ _ _ L hw hp (sortX_stop hs (fun j' a b h=>by omega) (by omega)) (by simp [t0]) (by simp [t1]) (by simp [t2]) (by simp [t3]) (by simp [t8])
 ·obtain ⟨j,rfl⟩:∃ j',j=j' + 1:=⟨j - 1,by omega⟩
  obtain ⟨a,ha⟩:∃ d,L[j]?=some d:=⟨_,List.getElem?_eq_getElem (by omega)⟩
  obtain ⟨b,hb⟩:∃ d,L[j + 1]?=some d:=⟨_,List.getElem?_eq_getElem (by omega)⟩
  have hia:=fun w=>ia91 w ⟨B,0,none⟩ n n .i64 j (by omega)
  have hib:=fun w=>ia91 w ⟨B,0,none⟩ n n .i64 (j + 1) (by omega)
  have w3:IntKind.wrap .i64 (((j + 1:Nat):Int) - 1)=(j:Int):=by rw [wrap64_in (by omega) (by omega)]; omega
  have hp0:(0:Int) < ((j + 1:Nat):Int):=by omega
  obtain ⟨k,hk⟩:∃ k:Int,k=((j + 1:Nat):Int):=⟨_,rfl⟩
  rw [← hk] at w3 hp0 t9 hib
  have hrow:=hw.row
  have hda:=(flat_at offC_length L j a [] ha).1
  have hdb:=(flat_at offC_length L (j + 1) b [] hb).1
  rw [List.append_nil] at hda hdb
  obtain ⟨cs,hcs⟩:∃ cs,cs=L.flatMap offC:=⟨_,rfl⟩
  have hfl:(L.flatMap offC).length=n * 11:=by rw [flat_length offC_length,hlen]
  rw [← hcs] at hrow hda hdb hfl
  have hf1:(j + 1) * 11 + 11≤n * 11:=by omega
  have hf2:j * 11 + 11≤n * 11:=by omega
  obtain ⟨ja,hja⟩:∃ x,x=j * 11:=⟨_,rfl⟩
  obtain ⟨jb,hjb⟩:∃ x,x=(j + 1) * 11:=⟨_,rfl⟩
  rw [← hja] at hia hda hf2
  rw [← hjb] at hib hdb hf1
  unfold fun93 at t3 hQ ⊢
  by_cases hc:oH b < oH a
  ·have hcm:cmpI (oH b) (oH a) = -1:=by unfold cmpI; rw [if_pos hc]
   have hset1:=flat_set offC_length L (j + 1) a (by omega)
   have hset2:=flat_set offC_length (L.set (j + 1) a) j b (by rw [List.length_set]; omega)
   have hfl1:((L.set (j + 1) a).flatMap offC).length=n * 11:=by rw [flat_length offC_length,List.length_set,hlen]
   have hsw:(L.set (j + 1) a).set j b=swapL L j a b:=rfl
   rw [hsw] at hset2
   obtain ⟨cs1,hcs1⟩:∃ cs,cs=(L.set (j + 1) a).flatMap offC:=⟨_,rfl⟩
   obtain ⟨cs2,hcs2⟩:∃ cs,cs=(swapL L j a b).flatMap offC:=⟨_,rfl⟩
   rw [← hcs,← hjb] at hset1
   rw [← hcs1] at hset1 hset2 hfl1
   rw [← hcs2,← hja] at hset2
   have l2:w.lim≤B:=by omega
   simp [mc115_l1,t0,t1,t3,t9,hp0,w3,hia,hib,hda,hdb,r93,hcm,hrow,hfl,hfl1,hf1,hf2,hset1,hset2,l2,cellsOf_agg,callV_func]
   refine ⟨by omega,j,by omega,swapL L j a b,⟨?_,fun x hx hB=>?_,hw.next,hlm⟩,(swap_perm ha hb).trans hp,sortX_step hs (by omega) ha hb hc,?_⟩
   ·simp [hcs2]
   ·simp [hB]; exact hw.old x hx hB
   ·simp [t2,t8,fun93]
  ·have hcm:¬ cmpI (oH b) (oH a) < 0:=by unfold cmpI; rw [if_neg hc]; split <;> omega
   simp [mc115_l1,t0,t1,t3,t9,hp0,w3,hia,hib,hda,hdb,r93,hcm,hrow,hfl,hf1,hf2,callV_func]
   exact hQ _ _ L hw hp (sortX_stop hs (fun j' a' b' h h1 h2=>by
    obtain rfl:j'=j:=by omega
    rw [ha] at h1; rw [hb] at h2
    cases h1; cases h2
    omega) (by omega)) (by simp [t0]) (by simp [t1]) (by simp [t2]) (by simp [t3]) (by simp [t8])
end Go.Proofs.YtaiiampennkhiaaDoor.walk
