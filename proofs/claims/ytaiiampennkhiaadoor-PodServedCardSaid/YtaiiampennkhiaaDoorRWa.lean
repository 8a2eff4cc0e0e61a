/- Part of a proof by a machine of ones own: see the text with the theorem. -/
import Derived.Test.YtaiiampennkhiaaDoorRT
import Derived.Test.YtaiiampennkhiaaDoorQHb
import Derived.Test.YtaiiampennkhiaaDoorShF
namespace Go.Proofs.YtaiiampennkhiaaDoor.walk
open Go Go.Sh
open known (partsC laidL noOv)
set_option maxRecDepth 100000
def befI (R:List Int):Nat→Int
 | 0 => -1
 | i + 1=>R.getD i 0
def riseOk (n:Int) (R:List Int) (i:Nat):Bool:=inI 0 (R.getD i 0) (n - 1) && decide (befI R i < R.getD i 0)
def riseTo (n:Int) (R:List Int):Nat→Bool
 | 0=>true
 | i + 1=>riseTo n R i && riseOk n R i
def riseB (n:Int) (R:List Int):Bool:=riseTo n R R.length
theorem rise_false {n : Int} {R : List Int} {i : Nat} (h : riseTo n R i = false) : ∀ k, i ≤ k → riseTo n R k = false
  | 0, hk => by obtain rfl : i = 0 := by omega
                exact h
  | k + 1, hk => by
    rcases Nat.eq_or_lt_of_le hk with e | h1
    · rw [← e]; exact h
    · show (riseTo n R k && _) = false
      rw [rise_false h k (by omega)]; rfl
theorem getD_of {R:List Int} {i:Nat} {z:Int} (h:R[i]?=some z):R.getD i 0=z:=by simp [List.getD,h]
theorem bef_le {n:Int} {R:List Int}:∀ {i:Nat},riseTo n R i=true → -1≤befI R i∧(0 < i→0≤befI R i∧befI R i≤n - 1)
 | 0,_=>⟨by simp [befI],fun h=>absurd h (by omega)⟩
 | i + 1,h=>by
  have h2:riseOk n R i=true:=by
   have:(riseTo n R i && riseOk n R i)=true:=h
   simp only [Bool.and_eq_true] at this
   exact this.2
  simp only [riseOk,inI,Bool.and_eq_true,decide_eq_true_eq] at h2
  simp only [befI]
  omega
theorem loop65 {ov:Ov} (R:List Int) (hlen:R.length≤12) (u:Value) (w:AW) (hu:RowsV intC w u R) (m:Nat)
  (Q:Ex→Tm→AW→Prop) (t:Tm) (t3:tget t 3=.int .i64 (-1)) (t9:tget t 9=u) (t10:tget t 10=.int .i64 (R.length:Nat)) (t11:tget t 11=.int .i64 0)
  (hyes:riseB 2001 R=true→∀ t,Q (.exit 0) t w) (hno:riseB 2001 R=false→∀ t,tget t 2=.bool false→Q .ret t w):wp (exM Tryd.prog (run Tryd.prog ov m) (.loop mc65_l0) t w) Q:=by
 refine wp_rounds (fun i t w'=>w'=w∧tget t 3=.int .i64 (befI R i)∧tget t 9=u∧tget t 10=.int .i64 (R.length:Nat)∧tget t 11=.int .i64 (i:Nat)∧i≤R.length∧riseTo 2001 R i=true) 200 (by decide) ⟨rfl,t3,t9,t10,t11,Nat.zero_le _,rfl⟩ ?_
 clear t3 t9 t10 t11
 rintro i t w' ⟨rfl,t3,t9,t10,t11,hi,hok⟩
 by_cases hlt:i < R.length
 ·obtain ⟨d,hd⟩:∃ d,R[i]?=some d:=⟨_,List.getElem?_eq_getElem hlt⟩
  obtain ⟨b,off,sq,c,rfl,hr⟩:=hu.at_ i hlt
  have hld:=hr.int hd
  have hia:=fun w=>ia33 w ⟨b,off,sq⟩ R.length c .i64 i hlt
  have hw1:IntKind.wrap .i64 ((i:Int) + 1)=(i:Int) + 1:=wrap64_in (by omega) (by omega)
  have hs:riseTo 2001 R (i + 1)=riseOk 2001 R i:=by show (riseTo 2001 R i && _)=_; rw [hok,Bool.true_and]
  have hb:=(bef_le hok).1
  have hdd:=getD_of hd
  have hbn:befI R (i + 1)=d:=hdd
  by_cases h1:d≤befI R i
  ·have hbad:riseB 2001 R=false:=rise_false (i:=i + 1) (by rw [hs]; simp only [riseOk,hdd,Bool.and_eq_false_iff,decide_eq_false_iff_not]; right; omega) _ hlt
   simp [mc65_l0,t3,t9,t10,t11,hlt,hia,hld,h1]
   exact hno hbad _ (by simp)
  ·by_cases h2:2000 < d
   ·have hbad:riseB 2001 R=false:=rise_false (i:=i + 1) (by rw [hs]; simp only [riseOk,hdd,inI,Bool.and_eq_false_iff,decide_eq_false_iff_not]; left; right; omega) _ hlt
    simp [mc65_l0,t3,t9,t10,t11,hlt,hia,hld,h1,h2]
    exact hno hbad _ (by simp)
   ·have hs':riseTo 2001 R (i + 1)=true:=by
     rw [hs]; simp only [riseOk,hdd,inI,Bool.and_eq_true,decide_eq_true_eq]; omega
    simp [mc65_l0,t3,t9,t10,t11,hlt,hia,hld,h1,h2,hw1]
    exact ⟨by omega,hbn.symm,hlt,hs'⟩
 ·have hi':i=R.length:=by omega
  subst hi'
  simp [mc65_l0,t10,t11]
  exact hyes hok _
def roundsB (R:List Int):Bool:=decide (R.length≤12) && riseB 2001 R
theorem run65 {ov:Ov} (ho:∀ args w,ov 65 args w=none) (R:List Int) (u:Value) (w:AW) (hu:RowsV intC w u R) :
  ∃ x w',(run Tryd.prog ov 2).call 65 [u] w .none=.ok (.ret x) w' .none∧x=.bool (roundsB R):=by
 refine call_wp text65 (by simp) (ho _ _) ?_
 have hl:=len33V hu
 by_cases h:R.length≤12
 ·have h':¬ (12:Int) < R.length:=by omega
  simp [mc65,hl,h']
  refine wp_seqX (wp_blockX (loop65 R h u w hu 1 _ _ ?_ ?_ ?_ ?_ ?_ ?_))
  case _=>simp
  case _=>simp
  case _=>simp
  case _=>simp
  case _=>intro hy t; simp [roundsB,h,hy,tupV]
  case _=>intro hn t h2; simp [roundsB,h,hn,h2,tupV]
 ·have h':(12:Int) < R.length:=by omega
  simp [mc65,hl,h',roundsB,h,tupV]
noncomputable def F65:PureF:=fun args w=>match args with | [u]=>(rowsIn intC w u).map fun R=>.bool (roundsB R) | _=>none
theorem rule65 {ov:Ov} (k:HasP ov 65 F65) {u:Value} {R:List Int} {w:AW} (hu:RowsV intC w u R) (m:Nat):(run Tryd.prog ov (m + 1)).call 65 [u] w .none=.ok (.ret (.bool (roundsB R))) w .none:=k.call (by
 simp [F65,hu.rowsIn (m:=1) intC_length intC_inj])
def stepC (p:Pod) (on d:Int):Int:=bif inI (winL p) d (winH p) then d else on
def cutI (p:Pod) (R:List Int):Int:=R.foldl (stepC p) (-1)
theorem fold_snoc' {α β:Type} {f:β→α→β} {l:List α} {i:Nat} {y:α} (h:l[i]?=some y) (s:β):(l.take (i + 1)).foldl f s=f ((l.take i).foldl f s) y:=by
 rw [List.take_add_one,h,List.foldl_append]
 rfl
theorem rule14m {ov:Ov} (h:HasP ov 14 F14) {v:Value} {l:List Pod} {w:AW} (hv:podsIn w v=some l) (m:Nat):(run Tryd.prog ov (m + 1)).call 14 [v] w .none=.ok (.ret (errB (podsB l) 30)) w .none:=h.call (by simp [F14,hv])
theorem rule33m {ov:Ov} (h:HasP ov 33 F33) (n a b:Int) (m:Nat) (w:AW):(run Tryd.prog ov (m + 1)).call 33 [.int .i64 n,.int .i64 a,.int .i64 b] w .none=.ok (.ret (.bool (inI a n b))) w .none:=h.call rfl
theorem loop66 {ov:Ov} (h47:HasP ov 47 F47) (h72:HasP ov 72 F72) (p:Pod) (R:List Int) (hlen:R.length≤12) (u:Value) (w:AW) (B:Nat) (hB:w.heap.get B=some (.cells (podC p) 77 false)) (hu:RowsV intC w u R)
  (Q:Ex→Tm→AW→Prop) (t:Tm) (t2:tget t 2=.pointer (some ⟨B,0,none⟩)) (t5:tget t 5=.int .i64 (-1)) (t8:tget t 8=u) (t9:tget t 9=.int .i64 (R.length:Nat)) (t10:tget t 10=.int .i64 0)
  (hQ:∀ t,tget t 5=.int .i64 (cutI p R)→Q (.exit 0) t w):wp (exM Tryd.prog (run Tryd.prog ov 1) (.loop mc66_l0) t w) Q:=by
 refine wp_rounds (fun i t w'=>w'=w∧tget t 2=.pointer (some ⟨B,0,none⟩)∧tget t 5=.int .i64 ((R.take i).foldl (stepC p) (-1))∧tget t 8=u∧tget t 9=.int .i64 (R.length:Nat)∧tget t 10=.int .i64 (i:Nat)∧i≤R.length) 200 (by decide) ⟨rfl,t2,t5,t8,t9,t10,Nat.zero_le _⟩ ?_
 clear t2 t5 t8 t9 t10
 rintro i t w' ⟨rfl,t2,t5,t8,t9,t10,hi⟩
 by_cases hlt:i < R.length
 ·obtain ⟨d,hd⟩:∃ d,R[i]?=some d:=⟨_,List.getElem?_eq_getElem hlt⟩
  obtain ⟨b,off,sq,c,rfl,hr⟩:=hu.at_ i hlt
  have hld:=hr.int hd
  have hia:=fun w=>ia33 w ⟨b,off,sq⟩ R.length c .i64 i hlt
  have hw1:IntKind.wrap .i64 ((i:Int) + 1)=(i:Int) + 1:=wrap64_in (by omega) (by omega)
  have hs:=fold_snoc' hd (f:=stepC p) (-1)
  obtain ⟨s,hse⟩:∃ s,s=(R.take i).foldl (stepC p) (-1):=⟨_,rfl⟩
  rw [← hse] at hs t5
  have r47:=rule47 h47 p
  have r72:=fun n a b w=>rule72 h72 n a b 0 w
  simp only [Nat.zero_add] at r72
  cases f1:inI (winL p) d (winH p) <;>
  ·simp only [stepC,f1,cond_true,cond_false] at hs
   simp [mc66_l0,t2,t5,t8,t9,t10,hlt,hia,hld,hB,r47,r72,f1,hw1]
   exact ⟨by omega,hs.symm,hlt⟩
 ·have hi':i=R.length:=by omega
  subst hi'
  simp [mc66_l0,t9,t10]
  rw [List.take_length] at t5
  exact hQ _ (by simp [cutI,t5])
theorem run66 {ov:Ov} (ho:∀ args w,ov 66 args w=none) (h47:HasP ov 47 F47) (h72:HasP ov 72 F72) (p:Pod) (R:List Int) (hlen:R.length≤12) (u:Value) (w:AW) (hu:RowsV intC w u R) :
  ∃ x w',(run Tryd.prog ov 2).call 66 [.agg ⟨podC p⟩,u] w .none=.ok (.ret x) w' .none∧x=.int .i64 (cutI p R):=by
 refine call_wp text66 (by simp) (ho _ _) ?_
 have o1:Old w.next w.heap (w.heap.put w.next (some (.cells (podC p) 77 false))):=(Old.refl _ _).put (Nat.le_refl _)
 have hu1:RowsV intC ⟨w.heap.put w.next (some (.cells (podC p) 77 false)),w.next + 1,w.lim⟩ u R:=hu.old o1 (Nat.le_succ _)
 have hl:=len33V hu
 simp [mc66,hl]
 refine wp_seqX (wp_blockX (loop66 h47 h72 p R hlen u _ w.next ?_ hu1 _ _ ?_ ?_ ?_ ?_ ?_ ?_))
 case _=>simp
 case _=>simp
 case _=>simp
 case _=>simp
 case _=>simp
 case _=>simp
 case _=>intro t t5; simp [t5,tupV]
noncomputable def F66:PureF:=fun args w=>match args with | [.agg ⟨l⟩,u]=>(podOf l).bind fun p=>(rowsIn intC w u).bind fun R=>bif decide (R.length≤12) then some (.int .i64 (cutI p R)) else none | _=>none
theorem rule66 {ov:Ov} (k:HasP ov 66 F66) (p:Pod) {u:Value} {R:List Int} (hlen:R.length≤12) {w:AW} (hu:RowsV intC w u R) (m:Nat):(run Tryd.prog ov (m + 1)).call 66 [.agg ⟨podC p⟩,u] w .none=.ok (.ret (.int .i64 (cutI p R))) w .none:=k.call (by
 simp [F66,podOf_C,hu.rowsIn (m:=1) intC_length intC_inj,hlen])
end Go.Proofs.YtaiiampennkhiaaDoor.walk
namespace Go.Proofs.YtaiiampennkhiaaDoor.walk
open Go Go.Sh
open known (partsC laidL noOv)
set_option maxRecDepth 100000
set_option linter.unusedSimpArgs false
theorem isList91:isList Tryd.prog 91=true:=by kernel_rfl
theorem elem91:elemA Tryd.prog 91=some 114:=by kernel_rfl
theorem sz114:szOf Tryd.prog 114=some 11:=by kernel_rfl
theorem small114:smallT Tryd.prog 114=true:=by kernel_rfl
@[simp] theorem intC_singles (z:Int):singles (intC z)=true:=by simp [intC]
structure Off where
 p:Pod
 lo:Int
 hi:Int
 i:Int
def offC (o:Off):List Value:=podC o.p++[.int .i64 o.lo,.int .i64 o.hi,.int .i64 o.i]
@[simp] theorem offC_length (o:Off):(offC o).length=11:=by simp [offC,podC]
@[simp] theorem offC_singles (o:Off):singles (offC o)=true:=by simp [offC,podC]
@[simp] theorem offC_take (o:Off):(offC o).take 11=offC o:=by simp [offC,podC]
@[simp] theorem offC_drop (o:Off):(offC o).drop 11=[]:=by simp [offC,podC]
@[simp] theorem offC_take8 (o:Off):(offC o).take 8=podC o.p:=by simp [offC,podC]
@[simp] theorem offC_8 (o:Off) (h:8 < (offC o).length):(offC o)[8]=.int .i64 o.lo:=by simp [offC,podC]
@[simp] theorem offC_9 (o:Off) (h:9 < (offC o).length):(offC o)[9]=.int .i64 o.hi:=by simp [offC,podC]
@[simp] theorem offC_2 (o:Off) (h:2 < (offC o).length):(offC o)[2]=.int .i64 o.p.rl:=by simp [offC,podC]
@[simp] theorem offC_4 (o:Off) (h:4 < (offC o).length):(offC o)[4]=.int .i64 o.p.hl:=by simp [offC,podC]
@[simp] theorem offC_6 (o:Off) (h:6 < (offC o).length):(offC o)[6]=.int .i64 o.p.gl:=by simp [offC,podC]
@[simp] theorem bd114p (p:Pod) (a b i:Int) (w:AW):buildA Tryd.prog w 114 [(0,.agg ⟨podC p⟩),(1,.agg ⟨[.int .i64 a,.int .i64 b]⟩),(2,.int .i64 i)]=.val (.agg ⟨offC ⟨p,a,b,i⟩⟩) w:=bd114_0_1_2 w _ _ _ _ _ _ _ _ _ _ _
@[simp] theorem bs91o (o:Off) (w:AW):buildSliceA Tryd.prog w 91 1 [(0,.agg ⟨offC o⟩)]=.val (.slice (some ⟨w.next,0,none⟩) 1 1) ⟨w.heap.put w.next (some (.cells (offC o) 114 false)),w.next + 1,w.lim⟩:=bd91_0_n1 w _ _ _ _ _ _ _ _ _ _ _
def podOfC (l:List Value):Option Off:=match l with
 | [.string t,.int .i64 a,.int .i64 b,.int .i64 c,.int .i64 d,.int .i64 e,.int .i64 f,.int .i64 g,.int .i64 lo,.int .i64 hi,.int .i64 i]=>some ⟨⟨t,a,b,c,d,e,f,g⟩,lo,hi,i⟩
 | _=>none
theorem podOfC_C (o:Off):podOfC (offC o)=some o:=by
 obtain ⟨⟨t,a,b,c,d,e,f,g⟩,lo,hi,i⟩:=o
 rfl
theorem podOfC_some {l:List Value} {o:Off} (h:podOfC l=some o):l=offC o:=by
 unfold podOfC at h
 split at h
 ·cases h; rfl
 ·cases h
def oL (o:Off):Int:=max (winL o.p) o.lo
def oH (o:Off):Int:=min (winH o.p) o.hi
def oWin (o:Off):Value:=.agg ⟨[.int .i64 (oL o),.int .i64 (oH o)]⟩
theorem same_off (o:Off):sameVal 5 (.agg ⟨offC o⟩) (.agg ⟨offC o⟩)=true:=same_agg _ fun v hv=>by
 simp only [offC,podC,List.cons_append,List.nil_append,List.mem_cons,List.not_mem_nil,or_false] at hv
 rcases hv with rfl | rfl | rfl | rfl | rfl | rfl | rfl | rfl | rfl | rfl | rfl <;> first | exact sameN_int _ _ _ | exact sameN_string _ _
noncomputable def F85:PureF:=fun args _=>match args with | [.agg ⟨l⟩]=>(podOfC l).map oWin | _=>none
theorem rule85 {ov:Ov} (h:HasP ov 85 F85) (o:Off) (m:Nat) (w:AW):(run Tryd.prog ov (m + 1)).call 85 [.agg ⟨offC o⟩] w .none=.ok (.ret (.agg ⟨[.int .i64 (oL o),.int .i64 (oH o)]⟩)) w .none:=h.call (by simp [F85,podOfC_C,oWin])
theorem run85 {ov:Ov} (ho:∀ args w,ov 85 args w=none) (h47:HasP ov 47 F47) (o:Off) (w:AW) (hl:w.lim=w.next):∃ x w',(run Tryd.prog ov 2).call 85 [.agg ⟨offC o⟩] w .none=.ok (.ret x) w' .none∧x=oWin o:=by
 refine call_wp text85 (by simp) (ho _ _) ?_
 have l1:w.lim≤w.next + 1:=by omega
 have l2:w.lim≤w.next + 2:=by omega
 have r47:=rule47 h47 o.p
 simp [mc85,r47,l1,l2,cellsOf_agg,tupV,oWin,oL,oH,least2,most2]
def offsTo (l:List Pod) (lo hi:Int):Nat→List Off
 | 0=>[]
 | k + 1=>offsTo l lo hi k++(match l[k]? with | some p=>(if oH ⟨p,lo,hi,k⟩ < oL ⟨p,lo,hi,k⟩ then [] else [⟨p,lo,hi,k⟩]) | none=>[])
theorem offs_snoc {l:List Pod} {lo hi:Int} {k:Nat} {p:Pod} (h:l[k]?=some p):offsTo l lo hi (k + 1)=offsTo l lo hi k++(if oH ⟨p,lo,hi,k⟩ < oL ⟨p,lo,hi,k⟩ then [] else [⟨p,lo,hi,k⟩]):=by
 show offsTo l lo hi k++_=_
 rw [h]
theorem offs_mem {l:List Pod} {lo hi:Int} {o:Off}:∀ {k:Nat},o ∈ offsTo l lo hi k→∃ j:Nat,j < k∧l[j]?=some o.p∧o.i=(j:Int)∧o.lo=lo∧o.hi=hi∧oL o≤oH o
 | 0,h=>by simp [offsTo] at h
 | k + 1,h=>by
  have h':o ∈ offsTo l lo hi k++(match l[k]? with | some p=>(if oH ⟨p,lo,hi,k⟩ < oL ⟨p,lo,hi,k⟩ then [] else [⟨p,lo,hi,k⟩]) | none=>[]):=h
  rcases List.mem_append.1 h' with h1 | h1
  ·obtain ⟨j,a,b⟩:=offs_mem h1
   exact ⟨j,by omega,b⟩
  ·split at h1
   ·rename_i p hp
    split at h1
    ·simp at h1
    ·rename_i hn
     simp only [List.mem_singleton] at h1
     subst h1
     exact ⟨k,by omega,hp,rfl,rfl,rfl,by omega⟩
   ·simp at h1
theorem offs_len {l:List Pod} {lo hi:Int}:∀ k:Nat,(offsTo l lo hi k).length≤k
 | 0=>by simp [offsTo]
 | k + 1=>by
  have:=offs_len (l:=l) (lo:=lo) (hi:=hi) k
  show (offsTo l lo hi k++_).length≤_
  rw [List.length_append]
  have:∀ x:Option Pod,(match x with | some p=>(if oH ⟨p,lo,hi,k⟩ < oL ⟨p,lo,hi,k⟩ then [] else [(⟨p,lo,hi,(k:Int)⟩:Off)]) | none=>([]:List Off)).length≤1:=fun x=>by
   cases x with
   | none=>simp
   | some p=>dsimp only; split <;> simp
  have:=this l[k]?
  omega
theorem rule48m {ov:Ov} (h:HasP ov 48 F48) (a b:Int) (m:Nat) (w:AW):(run Tryd.prog ov (m + 1)).call 48 [.agg ⟨[.int .i64 a,.int .i64 b]⟩] w .none=.ok (.ret (.bool (decide (b < a)))) w .none:=h.call rfl
structure In61 (w0:AW) (lo hi:Int) (v:Value) (acc:List Off) (w:AW):Prop where
 base:Base w0.heap w0.next [.int .i64 lo,.int .i64 hi] 26 w
 acc:AccR offC 114 w0.next w v acc
 lm:w.lim=w0.lim
set_option maxHeartbeats 1000000 in
theorem loop61 {ov:Ov} (m:Nat) (h48:HasP ov 48 F48) (h85:HasP ov 85 F85) (l:List Pod) (lo hi:Int) (v:Value) (w0:AW) (hv:PodsV w0 v l) (hlen:l.length≤100)
  (Q:Ex→Tm→AW→Prop) (t:Tm) (w:AW) (hw:In61 w0 lo hi (.slice none 0 0) [] w)
  (t3:tget t 3=.pointer (some ⟨w0.next,0,none⟩)) (t5:tget t 5=.slice none 0 0) (t9:tget t 9=v) (t10:tget t 10=.int .i64 (l.length:Nat)) (t11:tget t 11=.int .i64 0)
  (hQ:∀ t w u,In61 w0 lo hi u (offsTo l lo hi l.length) w→tget t 5=u→Q (.exit 0) t w) :
  wp (exM Tryd.prog (run Tryd.prog ov (m + 1)) (.loop mc61_l0) t w) Q:=by
 refine wp_rounds (fun i t w=>∃ u,In61 w0 lo hi u (offsTo l lo hi i) w∧tget t 3=.pointer (some ⟨w0.next,0,none⟩)∧tget t 5=u∧tget t 9=v∧tget t 10=.int .i64 (l.length:Nat)∧tget t 11=.int .i64 (i:Nat)∧i≤l.length) 200 (by decide) ⟨_,hw,t3,t5,t9,t10,t11,Nat.zero_le _⟩ ?_
 clear t3 t5 t9 t10 t11 hw
 rintro i t w ⟨u,hw,t3,t5,t9,t10,t11,hi'⟩
 by_cases hlt:i < l.length
 ·obtain ⟨p,hp⟩:∃ p,l[i]?=some p:=⟨_,List.getElem?_eq_getElem hlt⟩
  obtain ⟨b,sq,c,rfl,hpa⟩:=hv.at_ i hlt
  have hld:=load_pod' hpa hp
  rw [← hw.base.old _ hpa.lt] at hld
  have n0:=hw.base.next
  have hlim:=hw.base.lim
  have hbox:=hw.base.box
  have hl1:w.lim≤w.next:=by omega
  have hl2:w.lim≤w.next + 1:=by omega
  have m0:¬ b=w.next:=by have:=hpa.lt; omega
  have m4:¬ w0.next=w.next:=by omega
  have m5:¬ w0.next=w.next + 1:=by omega
  have hia:=fun w=>ia22 w ⟨b,0,sq⟩ l.length c .i64 i hlt
  have hw1:IntKind.wrap .i64 ((i:Int) + 1)=(i:Int) + 1:=wrap64_in (by omega) (by omega)
  have hs:=offs_snoc (lo:=lo) (hi:=hi) hp
  obtain ⟨o,ho⟩:∃ o:Off,o=⟨p,lo,hi,(i:Int)⟩:=⟨_,rfl⟩
  rw [← ho] at hs
  have hbd:=fun w=>bd114p p lo hi (i:Int) w
  rw [← ho] at hbd
  have r85:=fun w=>rule85 h85 o m w
  have r48:=fun a b w=>rule48m h48 a b m w
  obtain ⟨H1,hH1⟩:∃ H1,H1=(((w.heap.put w.next (some (.cells [.string ⟨⟨[]⟩⟩,.int .i64 0,.int .i64 0,.int .i64 0,.int .i64 0,.int .i64 0,.int .i64 0,.int .i64 0] 30 false))).put w.next (some (.cells (podC p) 30 false))).put (w.next + 1) (some (.cells [.string ⟨⟨[]⟩⟩,.int .i64 0,.int .i64 0,.int .i64 0,.int .i64 0,.int .i64 0,.int .i64 0,.int .i64 0,.int .i64 0,.int .i64 0,.int .i64 0] 114 false))).put (w.next + 1) (some (.cells (offC o) 114 false)):=⟨_,rfl⟩
  have k1:∀ x,x < w.next→H1.get x=w.heap.get x:=fun x hx=>by
   rw [hH1,get_put,if_neg (by omega),get_put,if_neg (by omega),get_put,if_neg (by omega),get_put,if_neg (by omega)]
  have hacc1:AccR offC 114 w0.next ⟨H1,w.next + 1 + 1,w.lim⟩ u (offsTo l lo hi i):=hw.acc.keep (fun x _ hx=>k1 x hx) (by show w.next≤w.next + 1 + 1; omega)
  have hb1:∀ w':AW,(∀ x,x≤w0.next→w'.heap.get x=H1.get x)→w.next≤w'.next→w'.lim=w.lim→Base w0.heap w0.next [.int .i64 lo,.int .i64 hi] 26 w':=fun w' a1 a2 a3=>⟨fun x hx=>by rw [a1 x (by omega),k1 x (by omega)]; exact hw.base.old x hx,by rw [a1 _ (Nat.le_refl _),k1 _ n0]; exact hbox,by omega,by rw [a3]; exact hlim⟩
  by_cases hE:oH o < oL o
  ·rw [if_pos hE,List.append_nil] at hs
   simp [mc61_l0,t3,t5,t9,t10,t11,hlt,hia,hld,hl1,hl2,m0,m4,m5,hbox,cellsOf_agg,hbd,r85,r48,hE,hw1, -bd114p]
   rw [hs,← hH1]
   refine ⟨by omega,u,⟨hb1 _ (fun _ _=>rfl) (by show w.next≤w.next + 1 + 1; omega) rfl,hacc1,hw.lm⟩,?_⟩
   simp [t5]; omega
  ·rw [if_neg hE] at hs
   obtain ⟨v',w',ha,hacc',ho',hn,hl⟩:=hacc1.push isList91 elem91 sz114 small114 offC_length offC_singles (by decide) hlim (by show w0.next < w.next + 1 + 1; omega) (by have:=offs_len (l:=l) (lo:=lo) (hi:=hi) i; omega) o
   rw [hH1] at ha
   simp [mc61_l0,t3,t5,t9,t10,t11,hlt,hia,hld,hl1,hl2,m0,m4,m5,hbox,cellsOf_agg,hbd,r85,r48,hE,hw1,ha, -bd114p]
   rw [hs]
   exact ⟨by omega,v',⟨hb1 _ ho' (by have:w.next + 1 + 1≤w'.next:=hn; omega) hl,hacc',hl.trans hw.lm⟩,rfl,hlt⟩
 ·have hi'':i=l.length:=by omega
  subst hi''
  simp [mc61_l0,t10,t11]
  exact hQ _ _ _ hw (by simp [t5])
theorem call61 {ov:Ov} (m:Nat) (ho:∀ args w,ov 61 args w=none) (h48:HasP ov 48 F48) (h85:HasP ov 85 F85) (l:List Pod) (lo hi:Int) (v:Value) (w:AW) (hv:PodsV w v l) (hlen:l.length≤100) (hl:w.lim≤w.next) :
  ∃ x w',(run Tryd.prog ov (m + 2)).call 61 [v,.agg ⟨[.int .i64 lo,.int .i64 hi]⟩] w .none=.ok (.ret x) w' .none∧AccR offC 114 w.next w' x (offsTo l lo hi l.length)∧Old w.next w.heap w'.heap∧w.next < w'.next∧w'.lim=w.lim:=by
 refine call_wp text61 (by simp) (ho _ _) ?_
 have hl1:=len22V hv
 simp [mc61,hl1]
 refine wp_seqX (wp_blockX (loop61 m h48 h85 l lo hi v w hv hlen _ _ _ ⟨⟨?_,?_,?_,?_⟩,.nil,?_⟩ ?_ ?_ ?_ ?_ ?_ ?_))
 case _=>exact (Old.refl _ _).put (Nat.le_refl _)
 case _=>simp
 case _=>simp
 case _=>exact hl
 case _=>rfl
 case _=>simp
 case _=>simp
 case _=>simp
 case _=>simp
 case _=>simp
 case _ =>
  intro t w' u hw t5
  have nj:=hw.acc.ok
  simp [t5,tupV,nj]
  exact ⟨hw.acc,hw.base.old,hw.base.next,hw.lm⟩
end Go.Proofs.YtaiiampennkhiaaDoor.walk
namespace Go.Proofs.YtaiiampennkhiaaDoor.walk
open Go Go.Sh
open known (partsC laidL noOv)
set_option maxRecDepth 100000
set_option linter.unusedSimpArgs false
def grI (p:Pod):Int:=p.gl * p.rl / 100
def grY (p:Pod):Yl:=⟨grI p,0,0,0⟩
theorem win_eq {p:Pod} (h:podB p=true):winL p=p.born + p.rh∧winH p=p.born + p.rl + p.hl - 1:=by
 have k:=pod_ok h
 have:=k.born0; have:=k.born1; have:=k.r0; have:=k.r1; have:=k.r2; have:=k.h0; have:=k.h1; have:=k.h2
 unfold winL winH
 rw [wrap64_in (n:=p.born + p.rh) (by omega) (by omega),wrap64_in (n:=p.born + p.rl) (by omega) (by omega),wrap64_in (n:=p.born + p.rl + p.hl) (by omega) (by omega),wrap64_in (n:=p.born + p.rl + p.hl - 1) (by omega) (by omega)]
 exact ⟨rfl,rfl⟩
theorem ripe_on {p:Pod} (h:podB p=true) {d:Int} (h1:winL p≤d) (h2:d≤winH p) {r x g:Int} (k1:p.rl≤r) (k2:r≤p.rh) (k3:p.hl≤x) (k5:0≤g):ylI p.born d r x g=⟨g * r / 100,0,0,0⟩:=by
 obtain ⟨e1,e2⟩:=win_eq h
 have k:=pod_ok h
 have:=k.born0; have:=k.r0
 unfold ylI
 rw [if_neg (by omega),if_neg (by omega),if_pos (by omega),gram_eq (by omega) (by omega) k5]
 rw [show min (d - p.born) r=r by omega]
theorem gr_bd {p:Pod} (h:podB p=true):0≤grI p∧grI p≤400:=by
 have k:=pod_ok h
 have:=k.r0; have:=k.r1; have:=k.r2; have:=k.g0; have:=k.g1; have:=k.g2
 have a1:0≤p.gl * p.rl:=Int.mul_nonneg (by omega) (by omega)
 have a2:p.gl * p.rl≤100 * 400:=Int.mul_le_mul (by omega) (by omega) (by omega) (by omega)
 unfold grI
 omega
theorem gr_small {p:Pod} (h:podB p=true):smallY (grY p):=by
 have:=gr_bd h
 unfold smallY grY
 dsimp only
 omega
def offOk (o:Off):Prop:=podB o.p=true∧oL o≤oH o∧o.hi≤2000
theorem off_num {o:Off} (h:offOk o):numB o.p (oL o) o.p.rl o.p.hl o.p.gl=true∧ylI o.p.born (oL o) o.p.rl o.p.hl o.p.gl=grY o.p:=by
 obtain ⟨h1,h2,h3⟩:=h
 obtain ⟨e1,e2⟩:=win_eq h1
 have k:=pod_ok h1
 have:=k.born0; have:=k.born1; have:=k.r0; have:=k.r1; have:=k.r2; have:=k.h0; have:=k.h1; have:=k.h2; have:=k.g0; have:=k.g1
 have b1:winL o.p≤oL o:=by unfold oL; omega
 have b2:oH o≤winH o.p:=by unfold oH; omega
 have b3:oH o≤o.hi:=by unfold oH; omega
 refine ⟨num_of h1 ?_ ?_,ripe_on h1 b1 (by omega) (Int.le_refl _) k.r1 (Int.le_refl _) k.g0⟩
 ·simp only [planOk,Bool.or_eq_true,Bool.and_eq_true,decide_eq_true_eq]; omega
 ·simp only [truthOk,inI,Bool.and_eq_true,decide_eq_true_eq]; omega
@[simp] theorem bd106 (a b c:Int) (w:AW):buildA Tryd.prog w 106 [(0,.int .i64 a),(1,.int .i64 b),(2,.int .i64 c)]=.val (.agg ⟨[.int .i64 a,.int .i64 b,.int .i64 c]⟩) w:=by kernel_rfl
@[simp] theorem fd26_0 (a b:Int) (w:AW):fieldA Tryd.prog w 26 0 (.agg ⟨[.int .i64 a,.int .i64 b]⟩)=.val (.int .i64 a) w:=by kernel_rfl
@[simp] theorem fd26_1 (a b:Int) (w:AW):fieldA Tryd.prog w 26 1 (.agg ⟨[.int .i64 a,.int .i64 b]⟩)=.val (.int .i64 b) w:=by kernel_rfl
@[simp] theorem fd41_0 (a b c d e f:Int) (w:AW):fieldA Tryd.prog w 41 0 (.agg ⟨[.int .i64 a,.int .i64 b,.int .i64 c,.int .i64 d,.int .i64 e,.int .i64 f]⟩)=.val (.agg ⟨[.int .i64 a,.int .i64 b]⟩) w:=by kernel_rfl
open Classical in
noncomputable def F99:PureF:=fun args w=>match args with | [.agg ⟨l⟩]=>(podOfC l).bind fun o=>if offOk o∧PartsW w then some (.agg ⟨ylC (grY o.p)⟩) else none | _=>none
theorem rule99 {ov:Ov} (k:HasP ov 99 F99) {o:Off} (h:offOk o) (m:Nat) {w:AW} (hw:PartsW w):(run Tryd.prog ov (m + 1)).call 99 [.agg ⟨offC o⟩] w .none=.ok (.ret (.agg ⟨ylC (grY o.p)⟩)) w .none:=k.call (by simp [F99,podOfC_C,h,hw])
set_option maxHeartbeats 1000000 in
theorem run99 {ov:Ov} (ho:∀ args w,ov 99 args w=none) (h85:HasP ov 85 F85) (h73:HasP ov 73 F73) (o:Off) (h:offOk o) (w:AW) (hl:w.lim=w.next) (hw:PartsW w):∃ x w',(run Tryd.prog ov 2).call 99 [.agg ⟨offC o⟩] w .none=.ok (.ret x) w' .none∧x=.agg ⟨ylC (grY o.p)⟩:=by
 refine call_wp text99 (by simp) (ho _ _) ?_
 obtain ⟨hn,he⟩:=off_num h
 have l1:w.lim≤w.next + 1:=by omega
 have r85:=fun w=>rule85 h85 o 0 w
 have o1:Old w.next w.heap ((w.heap.put w.next (some (.cells (offC o) 114 false))).put (w.next + 1) (some (.cells [.int .i64 0,.int .i64 0,.int .i64 0,.int .i64 0] 37 false))):=((Old.refl _ _).put (Nat.le_refl _)).put (by omega)
 have r73:=rule73 h73 hn 0 (w:=⟨(w.heap.put w.next (some (.cells (offC o) 114 false))).put (w.next + 1) (some (.cells [.int .i64 0,.int .i64 0,.int .i64 0,.int .i64 0] 37 false)),w.next + 1 + 1,w.lim⟩) (hw.old o1 (by show w.next≤w.next + 1 + 1; omega))
 rw [he] at r73
 simp only [Nat.zero_add] at r85 r73
 have s2:=same_off o
 have sv:=fun n k a=>sameN_int n k a
 have sp:=same_pod o.p
 simp [mc99,r85,r73,l1,cellsOf_agg,tupV,sp,s2,sv]
end Go.Proofs.YtaiiampennkhiaaDoor.walk
namespace Go.Proofs.YtaiiampennkhiaaDoor.walk
open Go Go.Sh
open known (partsC laidL noOv)
set_option maxRecDepth 100000
set_option linter.unusedSimpArgs false
def offY (o:Off):Yl:=grY o.p
def sureL (l:List Pod) (lo hi:Int):List Yl:=(offsTo l lo hi l.length).map offY
def sureY (l:List Pod) (lo hi:Int):Yl:=sumYl (sureL l lo hi)
theorem off_ok {l:List Pod} (hB:podsB l=true) {lo hi:Int} (hh:hi≤2000) {o:Off} {k:Nat} (h:o ∈ offsTo l lo hi k):offOk o:=by
 obtain ⟨j,h1,h2,h3,h4,h5,h6⟩:=offs_mem h
 exact ⟨pods_all hB h2,h6,by omega⟩
theorem sure_small {l:List Pod} (hB:podsB l=true) {lo hi:Int} (hh:hi≤2000):∀ y ∈ sureL l lo hi,smallY y:=by
 intro y hy
 obtain ⟨o,ho,rfl⟩:=List.mem_map.1 hy
 exact gr_small (off_ok hB hh ho).1
theorem sure_len {l:List Pod} (hB:podsB l=true) {lo hi:Int}:(sureL l lo hi).length≤12:=by
 have:=offs_len (l:=l) (lo:=lo) (hi:=hi) l.length
 have:=podsB_len hB
 unfold sureL
 rw [List.length_map]
 omega
structure In86 (w0:AW) (N:Nat) (v:Value) (acc:List Yl) (w:AW):Prop where
 old:∀ x,x≤N→w.heap.get x=w0.heap.get x
 acc:AccR ylC 37 N w v acc
 next:N < w.next
 lm:w.lim=w0.lim
theorem take_snoc {α:Type} {l:List α} {i:Nat} {a:α} (h:l[i]?=some a):l.take (i + 1)=l.take i++[a]:=by rw [List.take_add_one,h]; rfl
set_option maxHeartbeats 1000000 in
theorem loop86 {ov:Ov} (m:Nat) (h99:HasP ov 99 F99) (os:List Off) (hok:∀ o ∈ os,offOk o) (hlen:os.length≤100) (u:Value) (w0:AW) (N:Nat) (hN:w0.next=N + 1) (hl:w0.lim≤N) (hPW:PartsW w0) (hu:RowsV offC w0 u os)
  (Q:Ex→Tm→AW→Prop) (t:Tm) (w:AW) (hw:In86 w0 N (.slice none 0 0) [] w) (v4:Value)
  (t4:tget t 4=v4) (t5:tget t 5=.slice none 0 0) (t10:tget t 10=u) (t11:tget t 11=.int .i64 (os.length:Nat)) (t12:tget t 12=.int .i64 0)
  (hQ:∀ t w v,In86 w0 N v (os.map offY) w→tget t 4=v4→tget t 5=v→Q (.exit 0) t w) :
  wp (exM Tryd.prog (run Tryd.prog ov (m + 1)) (.loop mc86_l0) t w) Q:=by
 refine wp_rounds (fun i t w=>∃ v,In86 w0 N v ((os.map offY).take i) w∧tget t 4=v4∧tget t 5=v∧tget t 10=u∧tget t 11=.int .i64 (os.length:Nat)∧tget t 12=.int .i64 (i:Nat)∧i≤os.length) 200 (by decide) ⟨_,by simpa using hw,t4,t5,t10,t11,t12,Nat.zero_le _⟩ ?_
 clear t4 t5 t10 t11 t12 hw
 rintro i t w ⟨v,hw,t4,t5,t10,t11,t12,hi⟩
 by_cases hlt:i < os.length
 ·obtain ⟨o,ho⟩:∃ o,os[i]?=some o:=⟨_,List.getElem?_eq_getElem hlt⟩
  obtain ⟨b,off,sq,c,rfl,hr⟩:=hu.at_ i hlt
  have hld:=hr.rd (m:=11) offC_length ho
  have hb:b < N + 1:=by have:=hr.2; omega
  rw [← hw.old b (by omega)] at hld
  have n0:=hw.next
  have hlm:=hw.lm
  have hl1:w.lim≤w.next:=by omega
  have m0:¬ b=w.next:=by omega
  have hia:=fun w=>ia91 w ⟨b,off,sq⟩ os.length c .i64 i hlt
  have hw1:IntKind.wrap .i64 ((i:Int) + 1)=(i:Int) + 1:=wrap64_in (by omega) (by omega)
  have hmem:o ∈ os:=List.mem_of_getElem? ho
  have hs:=take_snoc (l:=os.map offY) (i:=i) (a:=offY o) (by rw [List.getElem?_map,ho]; rfl)
  obtain ⟨H1,hH1⟩:∃ H1,H1=(w.heap.put w.next (some (.cells [.string ⟨⟨[]⟩⟩,.int .i64 0,.int .i64 0,.int .i64 0,.int .i64 0,.int .i64 0,.int .i64 0,.int .i64 0,.int .i64 0,.int .i64 0,.int .i64 0] 114 false))).put w.next (some (.cells (offC o) 114 false)):=⟨_,rfl⟩
  have k1:∀ x,x < w.next→H1.get x=w.heap.get x:=fun x hx=>by
   rw [hH1,get_put,if_neg (by omega),get_put,if_neg (by omega)]
  have hacc1:AccR ylC 37 N ⟨H1,w.next + 1,w.lim⟩ v ((os.map offY).take i):=hw.acc.keep (fun x _ hx=>k1 x hx) (Nat.le_succ _)
  have hPW1:PartsW ⟨H1,w.next + 1,w.lim⟩:=hPW.old (fun x hx=>by show H1.get x=_; rw [k1 x (by omega),hw.old x (by omega)]) (by show w0.next≤w.next + 1; omega)
  have r99:=rule99 h99 (hok o hmem) m hPW1
  obtain ⟨v',w',ha,hacc',ho',hn,hl'⟩:=hacc1.push isList103 elem103 sz37 small37 ylC_length ylC_singles (by decide) (by show w.lim≤N; omega) (by show N < w.next + 1; omega) (by rw [List.length_take]; omega) (offY o)
  rw [hH1] at r99 ha
  have he:grY o.p=offY o:=rfl
  rw [he] at r99
  simp [mc86_l0,t4,t5,t10,t11,t12,hlt,hia,hld,hl1,m0,cellsOf_agg,r99,ha,hw1]
  refine ⟨by omega,v',⟨fun x hx=>?_,?_,?_,?_⟩,rfl,hlt⟩
  ·rw [ho' x hx]; show H1.get x=_; rw [k1 x (by omega),hw.old x hx]
  ·rw [hs]; exact hacc'
  ·have:w.next + 1≤w'.next:=hn; omega
  ·exact hl'.trans hlm
 ·have hi':i=os.length:=by omega
  subst hi'
  simp [mc86_l0,t11,t12]
  rw [List.take_of_length_le (by simp)] at hw
  exact hQ _ _ _ hw (by simp [t4]) (by simp [t5])
theorem len91V {w0:AW} {u:Value} {os:List Off} (h:RowsV offC w0 u os) (w:AW):lenB Tryd.prog w 91 u=.val (.int .i64 (os.length:Nat)) w:=by
 obtain ⟨a,c,rfl⟩:=h.len
 exact len91 w a _ c
open Classical in
noncomputable def F86:PureF:=fun args w=>match args with | [v,.agg ⟨[.int .i64 lo,.int .i64 hi]⟩]=>(podsIn w v).bind fun l=>if podsB l=true∧hi≤2000∧PartsW w then some (.agg ⟨ylC (sureY l lo hi)⟩) else none | _=>none
theorem rule86 {ov:Ov} (k:HasP ov 86 F86) {v:Value} {l:List Pod} {lo hi:Int} (hB:podsB l=true) (hh:hi≤2000) (m:Nat) {w:AW} (hPW:PartsW w) (hv:podsIn w v=some l):(run Tryd.prog ov (m + 1)).call 86 [v,.agg ⟨[.int .i64 lo,.int .i64 hi]⟩] w .none=.ok (.ret (.agg ⟨ylC (sureY l lo hi)⟩)) w .none:=k.call (by
 simp only [F86,hv,Option.bind_some]
 rw [if_pos ⟨hB,hh,hPW⟩])
set_option maxHeartbeats 1000000 in
theorem run86 {ov:Ov} (ho:∀ args w,ov 86 args w=none) (ho61:∀ args w,ov 61 args w=none) (h48:HasP ov 48 F48) (h85:HasP ov 85 F85) (h99:HasP ov 99 F99) (h74:HasP ov 74 F74) (l:List Pod) (lo hi:Int) (hB:podsB l=true) (hh:hi≤2000) (v:Value) (w:AW) (hl:w.lim=w.next) (hPW:PartsW w) (hv:PodsV w v l) :
  ∃ x w',(run Tryd.prog ov 3).call 86 [v,.agg ⟨[.int .i64 lo,.int .i64 hi]⟩] w .none=.ok (.ret x) w' .none∧x=.agg ⟨ylC (sureY l lo hi)⟩:=by
 refine call_wp text86 (by simp) (ho _ _) ?_
 obtain ⟨H1,hH1⟩:∃ H1,H1=(w.heap.put w.next (some (.cells [.int .i64 lo,.int .i64 hi] 26 false))).put (w.next + 1) (some (.cells [.int .i64 0,.int .i64 0,.int .i64 0,.int .i64 0] 37 false)):=⟨_,rfl⟩
 have o1:Old w.next w.heap H1:=by rw [hH1]; exact ((Old.refl _ _).put (Nat.le_refl _)).put (by omega)
 have hv1:PodsV ⟨H1,w.next + 1 + 1,w.lim⟩ v l:=hv.old o1 (by show w.next≤w.next + 1 + 1; omega)
 have h12:=podsB_len hB
 obtain ⟨u,w1,hc,hacc,ho1,hn1,hl1⟩:=call61 0 ho61 h48 h85 l lo hi v _ hv1 (by omega) (by show w.lim≤w.next + 1 + 1; omega)
 have hn1':w.next + 1 + 1 < w1.next:=hn1
 have hl1':w1.lim=w.lim:=hl1
 have hrow:=hacc.rows
 have hlen:=len91V hrow
 have nj:=hacc.ok
 have hold:Old w.next w.heap w1.heap:=o1.trans ho1 (by show w.next≤w.next + 1 + 1; omega)
 have hPW1:PartsW w1:=hPW.old hold (by omega)
 obtain ⟨N,hN⟩:∃ N,w1.next=N + 1:=⟨w1.next - 1,by omega⟩
 have g4:w1.heap.get (w.next + 1)=some (.cells [.int .i64 0,.int .i64 0,.int .i64 0,.int .i64 0] 37 false):=by
  rw [ho1 _ (by show w.next + 1 < w.next + 1 + 1; omega)]; show H1.get _=_; rw [hH1,get_put,if_pos rfl]
 rw [hH1] at hc
 simp only [Nat.zero_add] at hc
 simp [mc86,hc,hlen,nj]
 refine wp_seqX (wp_blockX (loop86 1 h99 (offsTo l lo hi l.length) (fun o ho=>off_ok hB hh ho) (by have:=offs_len (l:=l) (lo:=lo) (hi:=hi) l.length; omega) u w1 N hN (by omega) hPW1 hrow _ _ _ ⟨fun _ _=>rfl,.nil,by omega,rfl⟩ (.pointer (some ⟨w.next + 1,0,none⟩)) ?_ ?_ ?_ ?_ ?_ ?_))
 case _=>simp
 case _=>simp
 case _=>simp
 case _=>simp
 case _=>simp
 case _ =>
  intro t w' x hw t4 t5
  have hr:=hw.acc.rows
  have r74:=rule74 h74 (sure_small hB hh) (by have:=sure_len hB (lo:=lo) (hi:=hi); omega) 1 hr
  have g4':w'.heap.get (w.next + 1)=some (.cells [.int .i64 0,.int .i64 0,.int .i64 0,.int .i64 0] 37 false):=by rw [hw.old _ (by omega),g4]
  have l4:w'.lim≤w.next + 1:=by have:=hw.lm; omega
  have he:sumYl (sureL l lo hi)=sureY l lo hi:=rfl
  rw [he] at r74
  simp only [Nat.reduceAdd] at r74
  have nj2:=hw.acc.ok
  simp [t4,t5,r74,g4',l4,cellsOf_agg,tupV,nj2]
end Go.Proofs.YtaiiampennkhiaaDoor.walk
namespace Go.Proofs.YtaiiampennkhiaaDoor.walk
open Go Go.Sh
open known (partsC laidL noOv)
set_option maxRecDepth 100000
set_option linter.unusedSimpArgs false
@[simp] theorem bs33i (z:Int) (w:AW):buildSliceA Tryd.prog w 33 1 [(0,.int .i64 z)]=.val (.slice (some ⟨w.next,0,none⟩) 1 1) ⟨w.heap.put w.next (some (.cells (intC z) 3 false)),w.next + 1,w.lim⟩:=bd33_0_n1 w z
structure In62 (w0:AW) (lo hi:Int) (v:Value) (acc:List Int) (w:AW):Prop where
 base:Base w0.heap w0.next [.int .i64 lo,.int .i64 hi] 26 w
 acc:AccR intC 3 w0.next w v acc
 lm:w.lim=w0.lim
end Go.Proofs.YtaiiampennkhiaaDoor.walk
namespace Go.Proofs.YtaiiampennkhiaaDoor.walk
open Go Go.Sh
open known (partsC laidL noOv)
set_option maxRecDepth 100000
set_option linter.unusedSimpArgs false
def mkB (a b n:Int):Bool:=inI 1 n 400 && spanI a b 0 (2001 - n)
theorem mkB_of {a b n:Int} (h:mkB a b n=true):1≤n∧n≤400∧0≤a∧a≤b∧b≤2001 - n:=by
 simp only [mkB,inI,spanI,Bool.and_eq_true,decide_eq_true_eq] at h
 omega
noncomputable def F67:PureF:=fun args _=>match args with | [.agg ⟨[.int .i64 a,.int .i64 b]⟩,.int .i64 n]=>some (.bool (mkB a b n)) | _=>none
theorem rule67 {ov:Ov} (h:HasP ov 67 F67) (a b n:Int) (m:Nat) (w:AW):(run Tryd.prog ov (m + 1)).call 67 [.agg ⟨[.int .i64 a,.int .i64 b]⟩,.int .i64 n] w .none=.ok (.ret (.bool (mkB a b n))) w .none:=h.call rfl
theorem run67 {ov:Ov} (ho:∀ args w,ov 67 args w=none) (h79:HasP ov 79 F46) (a b n:Int) (w:AW):∃ x w',(run Tryd.prog ov 2).call 67 [.agg ⟨[.int .i64 a,.int .i64 b]⟩,.int .i64 n] w .none=.ok (.ret x) w' .none∧x=.bool (mkB a b n):=by
 refine call_wp text67 (by simp) (ho _ _) ?_
 have r79:=rule79 h79
 by_cases h1:1≤n
 case' neg=>simp [mc67,h1,tupV,mkB,inI]
 by_cases h2:n≤400
 case' neg=>simp [mc67,h1,h2,tupV,mkB,inI]
 have w1:IntKind.wrap .i64 (2000 - n)=2000 - n:=wrap64_in (by omega) (by omega)
 have w2:IntKind.wrap .i64 (2000 - n + 1)=2001 - n:=by rw [wrap64_in (by omega) (by omega)]; omega
 simp [mc67,h1,h2,tupV,mkB,inI,r79,w1,w2]
def sg (l:List Pod) (a n:Int) (i:Nat):Int:=(sureY l (a + i) (a + i + n - 1)).ripe
def mst (l:List Pod) (a n:Int):Nat→Int × Int
 | 0=>(a, -1)
 | i + 1=>if (mst l a n i).2 < sg l a n i then (a + i,sg l a n i) else mst l a n i
theorem mst_bd {l:List Pod} {a n:Int} (h:∀ i,0≤sg l a n i):∀ i:Nat, -1≤(mst l a n i).2∧(0 < i→0≤(mst l a n i).2)∧((mst l a n i).2≤0→(mst l a n i).1=a)
 | 0=>⟨by simp [mst],fun h=>absurd h (by omega),fun _=>rfl⟩
 | i + 1=>by
  obtain ⟨h1,h2,h3⟩:=mst_bd h i
  have h4:=h i
  show -1≤(if _ then _ else _:Int × Int).2∧_
  show -1≤(if (mst l a n i).2 < sg l a n i then (a + i,sg l a n i) else mst l a n i).2∧(0 < i + 1→0≤(if (mst l a n i).2 < sg l a n i then (a + i,sg l a n i) else mst l a n i).2)∧((if (mst l a n i).2 < sg l a n i then (a + i,sg l a n i) else mst l a n i).2≤0→(if (mst l a n i).2 < sg l a n i then (a + i,sg l a n i) else mst l a n i).1=a)
  split
  ·dsimp only
   refine ⟨by omega,fun _=>h4,fun h5=>?_⟩
   rcases Nat.eq_zero_or_pos i with rfl | hp
   ·simp
   ·have:=h2 hp; omega
  ·exact ⟨h1,fun _=>by omega,h3⟩
theorem sY_zero {c:Yl→Int} {l:List Yl} (h:∀ y ∈ l,c y=0):sY c l=0:=by
 have:=sY_bd (c:=c) (l:=l) (b:=0) fun y hy=>by have:=h y hy; omega
 omega
theorem sure_eq (l:List Pod) (lo hi:Int):sureY l lo hi=⟨(sureY l lo hi).ripe,0,0,0⟩:=by
 have hz:∀ y ∈ sureL l lo hi,y.green=0∧y.split=0∧y.left=0:=fun y hy=>by
  obtain ⟨o,_,rfl⟩:=List.mem_map.1 hy
  exact ⟨rfl,rfl,rfl⟩
 have h1:=sY_zero (c:=Yl.green) fun y hy=>(hz y hy).1
 have h2:=sY_zero (c:=Yl.split) fun y hy=>(hz y hy).2.1
 have h3:=sY_zero (c:=Yl.left) fun y hy=>(hz y hy).2.2
 unfold sureY sumYl
 rw [h1,h2,h3]
theorem sure_bd {l:List Pod} (hB:podsB l=true) {lo hi:Int} (hh:hi≤2000):0≤(sureY l lo hi).ripe∧(sureY l lo hi).ripe≤40000:=by
 have h:=sumYl_bd (l:=sureL l lo hi) (sure_small hB hh) (by have:=sure_len hB (lo:=lo) (hi:=hi); omega)
 unfold sureY
 omega
def dayC (s:Int × Int):Int:=if 0 < s.2 then s.1 else 0
structure In68 (w0:AW) (a b:Int) (x:Int) (w:AW):Prop where
 base:Base w0.heap w0.next [.int .i64 a,.int .i64 b] 26 w
 best:w.heap.get (w0.next + 1)=some (.cells [.int .i64 x,.int .i64 0,.int .i64 0,.int .i64 0] 37 false)
 next:w0.next + 1 < w.next
set_option maxHeartbeats 1000000 in
theorem loop68 {ov:Ov} (m:Nat) (h86:HasP ov 86 F86) (l:List Pod) (hB:podsB l=true) (a b n:Int) (hM:mkB a b n=true) (v:Value) (w0:AW) (hPW:PartsW w0) (hv:PodsV w0 v l)
  (Q:Ex→Tm→AW→Prop) (t:Tm) (w:AW) (hw:In68 w0 a b 0 w)
  (t0:tget t 0=v) (t2:tget t 2=.int .i64 n) (t4:tget t 4=.pointer (some ⟨w0.next,0,none⟩)) (t6:tget t 6=.int .i64 0) (t8:tget t 8=.pointer (some ⟨w0.next + 1,0,none⟩)) (t9:tget t 9=.int .i64 a)
  (hQ:∀ t w s,s=mst l a n (b - a + 1).toNat→In68 w0 a b (max 0 s.2) w→tget t 4=.pointer (some ⟨w0.next,0,none⟩)→tget t 6=.int .i64 (dayC s)→tget t 8=.pointer (some ⟨w0.next + 1,0,none⟩)→Q (.exit 0) t w) :
  wp (exM Tryd.prog (run Tryd.prog ov (m + 1)) (.loop mc68_l0) t w) Q:=by
 obtain ⟨m1,m2,m3,m4,m5⟩:=mkB_of hM
 obtain ⟨K,hK⟩:∃ K,K=(b - a + 1).toNat:=⟨_,rfl⟩
 rw [← hK] at hQ
 refine wp_rounds (fun i t w=>In68 w0 a b (max 0 (mst l a n i).2) w∧tget t 0=v∧tget t 2=.int .i64 n∧tget t 4=.pointer (some ⟨w0.next,0,none⟩)∧tget t 6=.int .i64 (dayC (mst l a n i))∧tget t 8=.pointer (some ⟨w0.next + 1,0,none⟩)∧tget t 9=.int .i64 (a + i)∧i≤K) 5000 (by decide) ⟨by rw [show max 0 (mst l a n 0).2=0 from rfl]; exact hw,t0,t2,t4,by simpa [mst,dayC] using t6,t8,by simpa using t9,Nat.zero_le _⟩ ?_
 clear t0 t2 t4 t6 t8 t9 hw
 rintro i t w ⟨hw,t0,t2,t4,t6,t8,t9,hi⟩
 have hbox:=hw.base.box
 by_cases hlt:i < K
 ·have c1:a + (i:Int)≤b:=by omega
  have w1:IntKind.wrap .i64 (a + (i:Int) + n)=a + i + n:=wrap64_in (by omega) (by omega)
  have w2:IntKind.wrap .i64 (a + (i:Int) + n - 1)=a + i + n - 1:=wrap64_in (by omega) (by omega)
  have w3:IntKind.wrap .i64 (a + (i:Int) + 1)=a + ((i + 1:Nat):Int):=by rw [wrap64_in (by omega) (by omega)]; omega
  have n0:=hw.next
  have hlim:=hw.base.lim
  have hold:=hw.base.old
  have r86:=rule86 h86 hB (lo:=a + i) (hi:=a + i + n - 1) (by omega) m (hPW.old hold (by omega)) (hv.old hold (by omega)).podsIn
  rw [sure_eq] at r86
  have hsb:=sure_bd hB (lo:=a + i) (hi:=a + i + n - 1) (by omega)
  have hsg:sg l a n i=(sureY l (a + i) (a + i + n - 1)).ripe:=rfl
  obtain ⟨s,hs⟩:∃ s,s=(sureY l (a + i) (a + i + n - 1)).ripe:=⟨_,rfl⟩
  rw [← hs] at r86 hsb hsg
  have hmst:mst l a n (i + 1)=if (mst l a n i).2 < s then (a + i,s) else mst l a n i:=by rw [← hsg]; rfl
  obtain ⟨g,hg⟩:∃ g,g=mst l a n i:=⟨_,rfl⟩
  rw [← hg] at hw t6 hmst
  have hbest:=hw.best
  obtain ⟨z,hz⟩:∃ z,z=max 0 g.2:=⟨_,rfl⟩
  rw [← hz] at hw hbest
  have hl1:w.lim≤w.next:=by omega
  have hl2:w.lim≤w0.next + 1:=by omega
  have k1:¬ w0.next=w.next:=by omega
  have k2:¬ w0.next + 1=w.next:=by omega
  have k3:¬ w.next=w0.next + 1:=by omega
  have hst:∀ x:Int,∀ w':AW,(∀ y,y < w.next→y ≠ w0.next + 1→w'.heap.get y=w.heap.get y)→w'.heap.get (w0.next + 1)=some (.cells [.int .i64 x,.int .i64 0,.int .i64 0,.int .i64 0] 37 false)→w.next≤w'.next→w'.lim=w.lim→In68 w0 a b x w':=fun x w' a1 a2 a3 a4=>⟨⟨fun y hy=>by rw [a1 y (by omega) (by omega)]; exact hold y hy,by rw [a1 _ (by omega) (by omega)]; exact hbox,by omega,by rw [a4]; exact hlim⟩,a2,by omega⟩
  have sv:=fun a b c d=>same_ints [a,b,c,d]
  simp only [List.map_cons,List.map_nil] at sv
  simp only [ylC] at r86
  by_cases hc:z < s
  ·have e:mst l a n (i + 1)=(a + i,s):=by rw [hmst,if_pos (by omega)]
   have e2:max 0 (mst l a n (i + 1)).2=s:=by rw [e]; show max 0 s=s; omega
   have e3:dayC (mst l a n (i + 1))=a + i:=by rw [e]; unfold dayC; rw [if_pos (show 0 < s by omega)]
   simp [mc68_l0,t0,t2,t4,t6,t8,t9,hbox,hbest,c1,w1,w2,w3,r86,hl1,hl2,k1,k2,k3,cellsOf_agg,hc,sv]
   refine ⟨by omega,?_,e3.symm,hlt⟩
   rw [e2]
   refine hst _ _ (fun y hy hy'=>?_) ?_ (Nat.le_succ _) rfl
   ·simp [hy',show ¬ y=w.next by omega]
   ·simp
  ·have e2:max 0 (mst l a n (i + 1)).2=z:=by
    rw [hmst]; split
    ·show max 0 s=z; omega
    ·exact hz.symm
   have e3:dayC (mst l a n (i + 1))=dayC g:=by
    rw [hmst]; split
    ·unfold dayC; dsimp only; rw [if_neg (by omega),if_neg (by omega)]
    ·rfl
   simp [mc68_l0,t0,t2,t4,t6,t8,t9,hbox,hbest,c1,w1,w2,w3,r86,hl1,hl2,k1,k2,k3,cellsOf_agg,hc,sv]
   refine ⟨by omega,?_,e3.symm,hlt⟩
   rw [e2]
   refine hst _ _ (fun y hy hy'=>?_) ?_ (Nat.le_succ _) rfl
   ·simp [show ¬ y=w.next by omega]
   ·simp [k2,hbest]
 ·have hi':i=K:=by omega
  subst hi'
  have c1:¬ a + (i:Int)≤b:=by omega
  simp [mc68_l0,t4,t9,hbox,c1]
  exact hQ _ _ _ rfl hw (by simp [t4]) (by simp [t6]) (by simp [t8])
open Classical in
noncomputable def F68:PureF:=fun args w=>match args with | [v,.agg ⟨[.int .i64 a,.int .i64 b]⟩,.int .i64 n]=>(podsIn w v).bind fun l=>if podsB l=true∧mkB a b n=true∧PartsW w then some (.tuple ⟨[.int .i64 (mst l a n (b - a + 1).toNat).1,.int .i64 (mst l a n (b - a + 1).toNat).2]⟩) else none | _=>none
theorem rule68 {ov:Ov} (k:HasP ov 68 F68) {v:Value} {l:List Pod} {a b n:Int} (hB:podsB l=true) (hM:mkB a b n=true) (m:Nat) {w:AW} (hPW:PartsW w) (hv:podsIn w v=some l):(run Tryd.prog ov (m + 1)).call 68 [v,.agg ⟨[.int .i64 a,.int .i64 b]⟩,.int .i64 n] w .none=.ok (.ret (.tuple ⟨[.int .i64 (mst l a n (b - a + 1).toNat).1,.int .i64 (mst l a n (b - a + 1).toNat).2]⟩)) w .none:=k.call (by
 simp only [F68,hv,Option.bind_some]
 rw [if_pos ⟨hB,hM,hPW⟩])
set_option maxHeartbeats 1000000 in
theorem run68 {ov:Ov} (ho:∀ args w,ov 68 args w=none) (h86:HasP ov 86 F86) (l:List Pod) (hB:podsB l=true) (a b n:Int) (hM:mkB a b n=true) (v:Value) (w:AW) (hl:w.lim=w.next) (hPW:PartsW w) (hv:PodsV w v l) :
  ∃ x w',(run Tryd.prog ov 2).call 68 [v,.agg ⟨[.int .i64 a,.int .i64 b]⟩,.int .i64 n] w .none=.ok (.ret x) w' .none∧x=.tuple ⟨[.int .i64 (mst l a n (b - a + 1).toNat).1,.int .i64 (mst l a n (b - a + 1).toNat).2]⟩:=by
 obtain ⟨m1,m2,m3,m4,m5⟩:=mkB_of hM
 refine call_wp text68 (by simp) (ho _ _) ?_
 simp [mc68]
 refine wp_seqX (wp_blockX (loop68 0 h86 l hB a b n hM v w hPW hv _ _ _ ⟨⟨?_,?_,?_,?_⟩,?_,?_⟩ ?_ ?_ ?_ ?_ ?_ ?_ ?_))
 case _=>exact ((Old.refl _ _).put (Nat.le_refl _)).put (by omega)
 case _=>simp
 case _=>simp; try omega
 case _=>simp [hl]
 case _=>simp
 case _=>simp
 case _=>simp
 case _=>simp
 case _=>simp
 case _=>simp
 case _=>simp
 case _=>simp
 case _ =>
  intro t w' s hs hI t4 t6 t8
  have hbox:=hI.base.box
  have hbest:=hI.best
  obtain ⟨k1,k2,k3⟩:=mst_bd (l:=l) (a:=a) (n:=n) (fun i=>by
   have:=(sY_bd (c:=Yl.ripe) (l:=sureL l (a + i) (a + i + n - 1)) (b:=100000) fun y hy=>by
    obtain ⟨o,ho,rfl⟩:=List.mem_map.1 hy
    obtain ⟨j,_,hp,_⟩:=offs_mem ho
    have:=gr_bd (pods_all hB hp)
    show 0≤grI o.p∧grI o.p≤100000
    omega).1
   exact this) (b - a + 1).toNat
  rw [← hs] at k1 k2 k3 ⊢
  have k4:=k2 (by omega)
  have hmx:max 0 s.2=s.2:=by omega
  rw [hmx] at hbest
  by_cases hz:s.2=0
  ·have e1:=k3 (by omega)
   simp [t4,t6,t8,hbox,hbest,hz,tupV,e1]
  ·have hd:dayC s=s.1:=by unfold dayC; rw [if_pos (by omega)]
   simp [t4,t6,t8,hbox,hbest,hz,tupV,hd]
end Go.Proofs.YtaiiampennkhiaaDoor.walk
