/- Part of a proof by a machine of ones own: see the text with the theorem. -/
import Derived.Test.YtaiiampennkhiaaDoorSWa
import Derived.Test.YtaiiampennkhiaaDoorShF
import Derived.Test.YtaiiampennkhiaaDoorQB
namespace Go.Proofs.YtaiiampennkhiaaDoor.walk
open Go Go.Sh
open known (partsC laidL noOv)
set_option maxRecDepth 100000
set_option linter.unusedSimpArgs false
theorem loop115a {ov:Ov} (m:Nat) (h93:HasP ov 93 F93) (n:Nat) (hn:n≤100) (B c:Nat) (hBc:c ≠ B) (w0:AW) (hc:HasC w0 c) (hl:w0.lim≤B) (L0:List Off) (hL0:L0.length=n)
  (Q:Ex→Tm→AW→Prop) (t:Tm) (w:AW) (hw:InS offC 114 w0 B L0 w)
  (t0:tget t 0=.slice (some ⟨B,0,none⟩) n n) (t1:tget t 1=.int .i64 0) (t2:tget t 2=.int .i64 (n:Nat)) (t3:tget t 3=fun93 c) (t8:tget t 8=.int .i64 1)
  (hQ:∀ t w L,InS offC 114 w0 B L w→L.Perm L0→SortTo oH L n→Q (.exit 0) t w) :
  wp (exM Tryd.prog (run Tryd.prog ov (m + 1)) (.loop mc115_l0) t w) Q:=by
 refine wp_rounds (fun r t w=>∃ L,InS offC 114 w0 B L w∧L.Perm L0∧SortTo oH L (r + 1)∧tget t 0=.slice (some ⟨B,0,none⟩) n n∧tget t 1=.int .i64 0∧tget t 2=.int .i64 (n:Nat)∧tget t 3=fun93 c∧tget t 8=.int .i64 ((r + 1:Nat):Int)∧(r≤n)) 200 (by decide) ⟨L0,hw,List.Perm.refl _,sortTo_one _,t0,t1,t2,t3,by simpa using t8,Nat.zero_le _⟩ ?_
 clear t0 t1 t2 t3 t8 hw
 rintro r t w ⟨L,hw,hp,hs,t0,t1,t2,t3,t8,hr⟩
 by_cases hlt:r + 1 < n
 ·have hlt':((r + 1:Nat):Int) < (n:Int):=by omega
  have hw1:IntKind.wrap .i64 (((r + 1:Nat):Int) + 1)=((r + 1 + 1:Nat):Int):=by rw [wrap64_in (by omega) (by omega)]; omega
  obtain ⟨k,hk⟩:∃ k:Int,k=((r + 1:Nat):Int):=⟨_,rfl⟩
  rw [← hk] at t8 hlt' hw1
  simp [mc115_l0,t2,t8,hlt']
  refine wp_seqX (wp_blockX (wp_blockX (loop115b m h93 n hn (r + 1) hlt B c hBc w0 hc hl (.int .i64 (n:Nat)) L (by rw [hp.length_eq,hL0]) hs _ _ _ hw ?_ ?_ ?_ ?_ ?_ ?_ ?_)))
  case _=>simp [t0]
  case _=>simp [t1]
  case _=>simp [t2]
  case _=>simp [t3]
  case _=>simp [t8,hk]
  case _=>simp [hk]
  case _ =>
   intro t w L' hw' hp' hs' s0 s1 s2 s3 s8
   rw [← hk] at s8
   simp [s0,s1,s2,s3,s8,hw1]
   refine ⟨by omega,L',hw',hp'.trans hp,hs',?_⟩
   omega
 ·have hge:¬ ((r + 1:Nat):Int) < (n:Int):=by omega
  obtain ⟨k,hk⟩:∃ k:Int,k=((r + 1:Nat):Int):=⟨_,rfl⟩
  rw [← hk] at t8 hge
  simp [mc115_l0,t2,t8,hge]
  exact hQ _ _ L hw hp fun x y a b h1 h2=>hs x y a b h1 (by omega)
def Sorted115 (w w':AW) (v:Value) (B:Nat) (L:List Off):Prop:=∃ L',RowB offC 114 w' v B L'∧L'.Perm L∧SortTo oH L' L.length∧(∀ x,x < w.next→x ≠ B→w'.heap.get x=w.heap.get x)∧w.next≤w'.next∧w'.lim=w.lim
theorem call115 {ov:Ov} (m:Nat) (ho:∀ args w,ov 115 args w=none) (h93:HasP ov 93 F93) (L:List Off) (hn:L.length≤100) (B c:Nat) (hBc:c ≠ B) (v:Value) (w:AW) (hc:HasC w c) (hl:w.lim≤B) (hv:RowB offC 114 w v B L) :
  ∃ x w',(run Tryd.prog ov (m + 2)).call 115 [v,.int .i64 0,.int .i64 (L.length:Nat),fun93 c] w .none=.ok (.ret x) w' .none∧x=.tuple ⟨[]⟩∧Sorted115 w w' v B L:=by
 refine call_wp text115 (by simp) (ho _ _) ?_
 have w11:IntKind.wrap .i64 1=1:=by decide
 rcases hv with ⟨rfl,rfl⟩ | ⟨rfl,hB⟩
 ·simp [mc115]
  refine wp_blockX (wp_rounds (fun r t w'=>r=0∧w'=w∧tget t 8=.int .i64 1∧tget t 2=.int .i64 0) 5 (by decide) ⟨rfl,rfl,by simp [w11],by simp⟩ ?_)
  rintro r t w' ⟨rfl,rfl,t8,t2⟩
  simp [mc115_l0,t8,t2,tupV]
  exact ⟨[],.inl ⟨rfl,rfl⟩,List.Perm.refl _,sortTo_zero _,fun _ _ _=>rfl,Nat.le_refl _,rfl⟩
 ·simp [mc115]
  refine wp_blockX (loop115a m h93 L.length hn B c hBc w hc hl L rfl _ _ _ ⟨hB,fun _ _ _=>rfl,Nat.le_refl _,rfl⟩ ?_ ?_ ?_ ?_ ?_ ?_)
  case _=>simp
  case _=>simp
  case _=>simp
  case _=>simp
  case _=>simp [w11]
  case _ =>
   intro t w' L' hw hp hs
   simp [tupV]
   exact ⟨L',.inr ⟨by rw [hp.length_eq],hw.row⟩,hp,hs,hw.old,hw.next,hw.lim⟩
theorem call102 {ov:Ov} (m:Nat) (ho:∀ args w,ov 102 args w=none) (ho115:∀ args w,ov 115 args w=none) (h93:HasP ov 93 F93) (L:List Off) (hn:L.length≤12) (B c:Nat) (hBc:c ≠ B) (v:Value) (w:AW) (hc:HasC w c) (hl:w.lim≤B) (hv:RowB offC 114 w v B L) :
  ∃ x w',(run Tryd.prog ov (m + 3)).call 102 [v,.int .i64 (L.length:Nat),fun93 c] w .none=.ok (.ret x) w' .none∧x=.tuple ⟨[]⟩∧Sorted115 w w' v B L:=by
 refine call_wp text102 (by simp) (ho _ _) ?_
 obtain ⟨x,w',hc',rfl,hx⟩:=call115 m ho115 h93 L (by omega) B c hBc v w hc hl hv
 have h20:¬ (20:Int)≤(L.length:Int):=by omega
 have h20':¬ (20:Int) < (L.length:Int):=by omega
 simp [mc102]
 refine wp_seqX (wp_blockX (wp_rounds (fun r t w'=>r=0∧w'=w∧tget t 0=v∧tget t 1=.int .i64 (L.length:Nat)∧tget t 2=fun93 c∧tget t 6=.int .i64 20∧tget t 7=.int .i64 0∧tget t 8=.int .i64 20) 5 (by decide) ⟨rfl,rfl,by simp,by simp,by simp,by simp,by simp,by simp⟩ ?_))
 rintro r t w1 ⟨rfl,rfl,t0,t1,t2,t6,t7,t8⟩
 simp [mc102_l0,t0,t1,t2,t6,t7,t8,h20,hc']
 refine wp_blockX (wp_rounds (fun r t w1=>r=0∧w1=w'∧tget t 1=.int .i64 (L.length:Nat)∧tget t 6=.int .i64 20) 5 (by decide) ⟨rfl,rfl,by simp [t1],by simp [t6]⟩ ?_)
 rintro r t w1 ⟨rfl,rfl,s1,s6⟩
 simp [mc102_l1,s1,s6,h20',tupV]
 exact hx
theorem len91B {w0:AW} {v:Value} {B:Nat} {L:List Off} (hv:RowB offC 114 w0 v B L) (w:AW):lenB Tryd.prog w 91 v=.val (.int .i64 (L.length:Nat)) w:=by
 rcases hv with ⟨rfl,rfl⟩ | ⟨rfl,_⟩ <;> simp
theorem call92 {ov:Ov} (m:Nat) (ho:∀ args w,ov 92 args w=none) (ho102:∀ args w,ov 102 args w=none) (ho115:∀ args w,ov 115 args w=none) (h93:HasP ov 93 F93) (L:List Off) (hn:L.length≤12) (B c:Nat) (hBc:c ≠ B) (v:Value) (w:AW) (hc:HasC w c) (hl:w.lim≤B) (hv:RowB offC 114 w v B L) :
  ∃ x w',(run Tryd.prog ov (m + 4)).call 92 [v,fun93 c] w .none=.ok (.ret x) w' .none∧x=.tuple ⟨[]⟩∧Sorted115 w w' v B L:=by
 refine call_wp text92 (by simp) (ho _ _) ?_
 obtain ⟨x,w',hc',rfl,hx⟩:=call102 m ho102 ho115 h93 L hn B c hBc v w hc hl hv
 have hlv:=len91B hv
 simp [mc92,hlv,hc',tupV]
 exact hx
theorem eqs91 (c:Bool) (a:Option Addr) (n k:Nat) (w:AW):(binW Tryd.prog .eql 91 c).val (.slice a n k) (.slice none 0 0) w=.val (.bool (a.isNone)) w:=by
 cases a <;> kernel_rfl
@[simp] theorem cells_func (f:Fn) (a b:List Value):cellsOf (.func f ⟨a⟩ ⟨b⟩)=[.func f ⟨a⟩ ⟨b⟩]:=rfl
@[simp] theorem cells_iface (t:TypeId) (v:Value):cellsOf (.iface t v)=[.iface t v]:=rfl
theorem call91 {ov:Ov} (m:Nat) (ho:∀ args w,ov 91 args w=none) (os:List Off) (h12:os.length≤100) (N:Nat) (u:Value) (w:AW) (hl:w.lim≤w.next) (hu:AccR offC 114 N w u os) :
  ∃ v w',(run Tryd.prog ov (m + 1)).call 91 [u] w .none=.ok (.ret v) w' .none∧∃ B,RowB offC 114 w' v B os∧w.next≤B∧(os=[]∨B < w'.next)∧Old w.next w.heap w'.heap∧w.next≤w'.next∧w'.lim=w.lim:=by
 refine call_wp text91 (by simp) (ho _ _) ?_
 rcases hu with ⟨rfl,rfl⟩ | ⟨B0,rfl,hB,k1,k2,hne⟩
 ·simp [mc91,eqs91,tupV]
  exact ⟨w.next,.inl ⟨rfl,rfl⟩,Nat.le_refl _⟩
 ·have hpos:0 < os.length:=List.length_pos_iff.2 hne
  have hB1:(w.heap.put w.next (some (.cells [] 114 false))).get B0=some (.cells (os.flatMap offC) 114 false):=by rw [get_put,if_neg (by omega)]; exact hB
  have happ:=append_full isList91 elem91 sz114 small114 (w:=⟨w.heap.put w.next (some (.cells [] 114 false)),w.next + 1,w.lim⟩) (B:=w.next) (n:=0) (m:=os.length) (c:=[]) (new:=os.flatMap offC) (x:=.slice (some ⟨B0,0,none⟩) os.length os.length) rfl (src_row (w:=⟨w.heap.put w.next (some (.cells [] 114 false)),w.next + 1,w.lim⟩) hB1 (flat_length offC_length os) hpos (by decide)) (flat_length offC_length os) (flat_singles offC_singles os) hpos (by omega) (by show (w.heap.put w.next _).get _=_; rw [get_put,if_pos rfl]) rfl (by show w.lim≤w.next; exact hl)
  simp only [Nat.zero_add,List.nil_append] at happ
  simp [mc91,eqs91,happ,tupV]
  refine ⟨w.next + 1,.inr ⟨rfl,?_⟩,by omega,by simp,?_⟩
  ·show (((w.heap.put w.next _).put w.next none).put (w.next + 1) _).get _=_
   rw [get_put,if_pos rfl]
  ·intro x hx
   show (((w.heap.put w.next _).put w.next none).put (w.next + 1) _).get x=_
   rw [get_put,if_neg (by omega),get_put,if_neg (by omega),get_put,if_neg (by omega)]
set_option maxHeartbeats 1000000 in
theorem call80 {ov:Ov} (m:Nat) (ho:∀ args w,ov 80 args w=none) (ho91:∀ args w,ov 91 args w=none) (ho92:∀ args w,ov 92 args w=none) (ho102:∀ args w,ov 102 args w=none) (ho115:∀ args w,ov 115 args w=none) (h93:HasP ov 93 F93) (os:List Off) (h12:os.length≤12) (N:Nat) (u:Value) (w:AW) (hl:w.lim≤w.next) (hu:AccR offC 114 N w u os) :
  ∃ v w',(run Tryd.prog ov (m + 5)).call 80 [u,fun81] w .none=.ok (.ret v) w' .none∧∃ B L,RowB offC 114 w' v B L∧L.Perm os∧SortTo oH L L.length∧w.next≤B∧(L=[]∨B < w'.next)∧Old w.next w.heap w'.heap∧w.next < w'.next∧w'.lim=w.lim:=by
 refine call_wp text80 (by simp) (ho _ _) ?_
 obtain ⟨H1,hH1⟩:∃ H1,H1=w.heap.put w.next (some (.cells [fun81] 115 false)):=⟨_,rfl⟩
 have o1:Old w.next w.heap H1:=by rw [hH1]; exact (Old.refl _ _).put (Nat.le_refl _)
 have hu1:AccR offC 114 N ⟨H1,w.next + 1,w.lim⟩ u os:=hu.keep (fun x _ hx=>o1 x hx) (Nat.le_succ _)
 obtain ⟨v,w1,c1,B,hB,q1,q2,q3,q4,q5⟩:=call91 (m + 3) ho91 os (by omega) N u _ (by show w.lim≤w.next + 1; omega) hu1
 have q1':w.next + 1≤B:=q1
 have q4':w.next + 1≤w1.next:=q4
 have q5':w1.lim=w.lim:=q5
 have hC:HasC w1 w.next:=⟨by rw [q3 _ (by show w.next < w.next + 1; omega)]; show H1.get _=_; rw [hH1,get_put,if_pos rfl],by omega⟩
 obtain ⟨x2,w2,c2,rfl,L,r1,r2,r3,r4,r5,r6⟩:=call92 m ho92 ho102 ho115 h93 os h12 B w.next (by omega) v w1 hC (by omega) hB
 have hs:RowB offC 114 w2 v B L:=r1
 have nj:notJunk v=some v:=by rcases hB with ⟨_,rfl⟩ | ⟨rfl,_⟩ <;> rfl
 rw [hH1] at c1
 unfold fun81 at c1 ⊢
 unfold fun93 at c2
 simp [mc80,c1,c2,nj,tupV]
 refine ⟨B,L,hs,r2,by rw [r2.length_eq]; exact r3,by omega,?_,fun x hx=>?_,by omega,by omega⟩
 ·rcases q2 with rfl | h
  ·exact .inl (List.Perm.eq_nil r2)
  ·exact .inr (by omega)
 rw [r4 x (by omega) (by omega),q3 x (by show x < w.next + 1; omega)]
 exact o1 x hx
end Go.Proofs.YtaiiampennkhiaaDoor.walk
namespace Go.Proofs.YtaiiampennkhiaaDoor.walk
open Go Go.Sh
open known (partsC laidL noOv)
set_option maxRecDepth 100000
set_option linter.unusedSimpArgs false
@[simp] theorem op_makeIf {P:Program} {t:Tm} {w:AW} (ty s:TypeId) (x:Operand):(opS P ty (.makeInterface s x)).val t w=ifaceA P w s ((evS x).val t):=rfl
@[simp] theorem op_invoke {P:Program} {t:Tm} {w:AW} (ty:TypeId) (x:Operand) (name:String) (args:Array Operand) (ts:Array TypeId):(opS P ty (.call ⟨.invoke x name,args,ts⟩)).val t w=callM P w ((evS x).val t) name ((evL args.toList).val t):=rfl
@[simp] theorem if114 (o:Off) (w:AW):ifaceA Tryd.prog w 114 (.agg ⟨offC o⟩)=.val (.iface 114 (.agg ⟨offC o⟩)) w:=by kernel_rfl
@[simp] theorem cm114 (v:Value) (w:AW):callM Tryd.prog w (.iface 114 v) "rostellum/pod.window" []=.enter 85 [v] w:=by kernel_rfl
def fun95 (c:Nat):Value:=.func (.func 95) ⟨[]⟩ ⟨[.pointer (some ⟨c,0,none⟩)]⟩
@[simp] theorem cfn95 (w:AW) (l:List Value):callFn Tryd.prog w 95 l=.enter 95 l w:=callFn_of (by kernel_rfl) l
theorem call82 {ov:Ov} (m:Nat) (ho:∀ args w,ov 82 args w=none) (o:Off) (w:AW) :
  ∃ v w',(run Tryd.prog ov (m + 1)).call 82 [.iface 114 (.agg ⟨offC o⟩)] w .none=.ok (.ret v) w' .none∧v=fun95 w.next∧w'=⟨w.heap.put w.next (some (.cells [.iface 114 (.agg ⟨offC o⟩)] 131 false)),w.next + 1,w.lim⟩:=by
 refine call_wp text82 (by simp) (ho _ _) ?_
 simp [mc82,tupV,fun95,notJunk]
structure In95 (we:AW) (L:Nat) (lp:ALoop) (w:AW):Prop where
 lo:w.heap.get L=some (.loop lp)
 old:∀ x,x < we.next→x ≠ L→w.heap.get x=we.heap.get x
 next:we.next≤w.next
 lim:w.lim=we.lim
def StepY (ov:Ov) (m L:Nat) (we:AW) (R:List Int) (lp lq:ALoop):Prop :=
 ∀ v w,In95 we L lp w→∃ w',yieldA (run Tryd.prog ov m) L [.int .i64 v] w=.val (!decide (v ∈ R)) w'∧w'.heap.get L=some (.loop (if v ∈ R then lq else lp))∧(∀ x,x < w.next→x ≠ L→w'.heap.get x=w.heap.get x)∧w.next≤w'.next∧w'.lim=w.lim
def hitO (o:Off) (R:List Int):Prop:=∃ d ∈ R,oL o≤d∧d≤oH o
theorem loop95 {ov:Ov} (m L:Nat) (we:AW) (hL:L < we.next) (R:List Int) (lp lq:ALoop) (hst:StepY ov (m + 1) L we R lp lq) (o:Off) (hlong:oH o - oL o≤1000) (hlo : -10000≤oL o∧oH o≤10000)
  (Q:Ex→Tm→AW→Prop) (t:Tm) (w:AW) (hw:In95 we L lp w) (hbox:w.heap.get we.next=some (.cells [.int .i64 (oL o),.int .i64 (oH o)] 26 false)) (hnx:we.next < w.next)
  (t0:tget t 0=.func (.yield L) ⟨[]⟩ ⟨[]⟩) (t3:tget t 3=.pointer (some ⟨we.next,0,none⟩)) (t4:tget t 4=.int .i64 (oL o))
  (hno:∀ t w,In95 we L lp w→¬ hitO o R→Q (.exit 0) t w) (hyes:∀ t w,In95 we L lq w→hitO o R→Q .ret t w):wp (exY Tryd.prog (run Tryd.prog ov (m + 1)) (.loop mc95_l0) t w) Q:=by
 refine wp_roundsY (fun j t w=>In95 we L lp w∧w.heap.get we.next=some (.cells [.int .i64 (oL o),.int .i64 (oH o)] 26 false)∧we.next < w.next∧tget t 0=.func (.yield L) ⟨[]⟩ ⟨[]⟩∧tget t 3=.pointer (some ⟨we.next,0,none⟩)∧tget t 4=.int .i64 (oL o + (j:Nat))∧(∀ d ∈ R,oL o≤d→d < oL o + (j:Nat)→False)∧(j≤1001)) 5000 (by decide) ⟨hw,hbox,hnx,t0,t3,by simpa using t4,fun d _ h1 h2=>by omega,by omega⟩ ?_
 clear t0 t3 t4 hw hbox hnx
 rintro j t w ⟨hw,hbox,hnx,t0,t3,t4,hR,hj⟩
 by_cases hlt:oL o + (j:Nat)≤oH o
 ·obtain ⟨x,hx⟩:∃ x,x=oL o + (j:Nat):=⟨_,rfl⟩
  obtain ⟨w',hy,hl,hk,hn,hlm⟩:=hst x w hw
  have hI:∀ lr,w'.heap.get L=some (.loop lr)→In95 we L lr w':=fun lr h=>⟨h,fun y h1 h2=>by rw [hk y (by omega) h2]; exact hw.old y h1 h2,by omega,by have:=hw.lim; omega⟩
  have hw1:IntKind.wrap .i64 (x + 1)=oL o + ((j + 1:Nat):Int):=by rw [wrap64_in (by omega) (by omega)]; omega
  rw [← hx] at t4 hlt
  by_cases hm:x ∈ R
  ·rw [if_pos hm] at hl
   simp [mc95_l0,t0,t3,t4,hbox,hlt,hy,hm]
   exact hyes _ _ (hI _ hl) ⟨x,hm,by omega,hlt⟩
  ·rw [if_neg hm] at hl
   simp [mc95_l0,t0,t3,t4,hbox,hlt,hy,hm,hw1]
   refine ⟨by omega,hI _ hl,by rw [hk _ hnx (by omega)]; exact hbox,by omega,fun d h1 h2=>?_,by omega⟩
   have h5:¬ d < oL o + (j:Nat):=fun h=>hR d h1 h2 h
   have h6:¬ d=x:=fun e=>hm (e ▸ h1)
   omega
 ·simp [mc95_l0,t3,t4,hbox,hlt]
  exact hno _ _ hw fun ⟨d,h1,h2,h3⟩=>hR d h1 h2 (by omega)
open Classical in
theorem call95 {ov:Ov} (m L:Nat) (ho:∀ args w,ov 95 args w=none) (h85:HasP ov 85 F85) (we:AW) (hL:L < we.next) (hlim:we.lim≤we.next) (R:List Int) (lp lq:ALoop) (hst:StepY ov (m + 1) L we R lp lq) (o:Off) (hlong:oH o - oL o≤1000) (hlo : -10000≤oL o∧oH o≤10000) (c:Nat) (hcell:we.heap.get c=some (.cells [.iface 114 (.agg ⟨offC o⟩)] 131 false)) (hlp:we.heap.get L=some (.loop lp)) :
  ∃ v w',(run Tryd.prog ov (m + 2)).call 95 [.func (.yield L) ⟨[]⟩ ⟨[]⟩,.pointer (some ⟨c,0,none⟩)] we .none=.ok (.ret v) w' .none∧In95 we L (if hitO o R then lq else lp) w':=by
 refine call_wpY text95 (by simp) (ho _ _) ?_
 have r85:=fun w=>rule85 h85 o m w
 have e1:¬ L=we.next:=by omega
 have hI:In95 we L lp ⟨(we.heap.put we.next (some (.cells [.int .i64 0,.int .i64 0] 26 false))).put we.next (some (.cells [.int .i64 (oL o),.int .i64 (oH o)] 26 false)),we.next + 1,we.lim⟩:=by
  refine ⟨?_,fun x h1 h2=>?_,Nat.le_succ _,rfl⟩
  ·show ((we.heap.put we.next _).put we.next _).get L=_
   rw [get_put,if_neg e1,get_put,if_neg e1]; exact hlp
  ·show ((we.heap.put we.next _).put we.next _).get x=_
   rw [get_put,if_neg (by omega),get_put,if_neg (by omega)]
 simp [mc95,hcell,r85,hlim,cellsOf_agg]
 refine wp_blockX (loop95 m L we hL R lp lq hst o hlong hlo _ _ _ hI ?_ ?_ ?_ ?_ ?_ ?_ ?_)
 case _=>simp
 case _=>exact Nat.lt_succ_self _
 case _=>simp
 case _=>simp
 case _=>simp
 case _=>intro t w hw hn; simpa [tupV,hn] using hw
 case _=>intro t w hw hn; simpa [tupV,hn] using hw
end Go.Proofs.YtaiiampennkhiaaDoor.walk
namespace Go.Proofs.YtaiiampennkhiaaDoor.walk
open Go Go.Sh
open known (partsC laidL noOv)
set_option maxRecDepth 100000
set_option linter.unusedSimpArgs false
@[simp] theorem setParR_cons (p:Tmp) (ps:List Tmp) (a:Value) (l:List Value) (t:Tm):setParams (p::ps) (a::l) t=setParams ps l (tset t p a):=rfl
@[simp] theorem setParR_nil (t:Tm):setParams [] [] t=t:=rfl
theorem accI_rows {n1:Nat} {w:AW} {v:Value} {acc:List Int} {B:Nat} (h:AccI n1 w v acc B):RowsV intC w v acc:=by
 rcases h with ⟨rfl,rfl,_⟩ | ⟨rfl,h2,h3,h4⟩
 ·exact .inl ⟨rfl,_,_,rfl⟩
 ·exact .inr ⟨B,0,none,_,rfl,⟨[],[],3,false,by simpa using h2,rfl⟩,h4⟩
theorem accI_ok {n1:Nat} {w:AW} {v:Value} {acc:List Int} {B:Nat} (h:AccI n1 w v acc B):notJunk v=some v:=by
 rcases h with ⟨_,rfl,_⟩ | ⟨rfl,_⟩ <;> rfl
theorem accI_single {n1:Nat} {w:AW} {v:Value} {acc:List Int} {B:Nat} (h:AccI n1 w v acc B):cellsOf v=[v]:=by
 rcases h with ⟨_,rfl,_⟩ | ⟨rfl,_⟩ <;> rfl
open Classical in
noncomputable def stepS (s:List Int × List Int) (o:Off):List Int × List Int:=if hitO o s.1 then s else (s.1++[oH o],s.2++[o.i])
noncomputable def serveS (L:List Off):List Int × List Int:=L.foldl stepS ([],[])
theorem stepS_len (s:List Int × List Int) (o:Off):(stepS s o).1.length≤s.1.length + 1∧(stepS s o).2.length≤s.2.length + 1:=by
 unfold stepS
 split
 ·omega
 ·simp
theorem foldS_len:∀ (L:List Off) (s:List Int × List Int),(L.foldl stepS s).1.length≤s.1.length + L.length∧(L.foldl stepS s).2.length≤s.2.length + L.length
 | [],s=>by simp
 | o::L,s=>by
  have h1:=stepS_len s o
  have h2:=foldS_len L (stepS s o)
  simp only [List.foldl_cons,List.length_cons]
  omega
theorem stepsY {ov:Ov} (k L c2:Nat) (h83:HasP ov 83 F83) (R:List Int) (hR:R.length≤100) (rv:Value) (TT:Tm) (t2:tget TT 2=.pointer (some ⟨c2,0,none⟩)) (wr we:AW) (hwr:wr.next=L) (hc2:c2 < L) (hu:RowsV intC wr rv R) (hcell:wr.heap.get c2=some (.cells [rv] 33 false)) (hlim:we.lim≤L) (hLe:L < we.next) (hold:∀ x,x < L→we.heap.get x=wr.heap.get x) :
  StepY ov (k + 1 + 1) L we R ⟨36,TT,[17],(rfOf Tryd.prog 60 0).1,(rfOf Tryd.prog 60 0).2,none,.ready⟩ ⟨36,TT,[17],(rfOf Tryd.prog 60 0).1,(rfOf Tryd.prog 60 0).2,some (.exit 1),.done⟩:=by
 intro v w hw
 have hlo:=hw.lo
 have hlm:w.lim≤L:=by rw [hw.lim]; exact hlim
 have e2:¬ c2=L:=by omega
 have hnx:L < w.next:=by have:=hw.next; omega
 have hcw:w.heap.get c2=some (.cells [rv] 33 false):=by rw [hw.old c2 (by omega) e2,hold c2 hc2,hcell]
 have huw:RowsV intC ⟨w.heap.put L (some (.loop ⟨36,TT,[17],(rfOf Tryd.prog 60 0).1,(rfOf Tryd.prog 60 0).2,none,.busy⟩)),w.next,w.lim⟩ rv R:=hu.old (fun x hx=>by
  show (w.heap.put L _).get x=_
  rw [get_put,if_neg (by omega),hw.old x (by omega) (by omega),hold x (by omega)]) (by show wr.next≤w.next; omega)
 have r83:=rule83 h83 hR v huw k
 obtain ⟨j,w',hy,hQ⟩:=yield_wp (P:=Tryd.prog) (ov:=ov) (m:=k + 1) (l:=L) (args:=[.int .i64 v]) (w:=w) (Q:=fun j w'=>j=(if v ∈ R then some (.exit 1) else none)∧w'=⟨(w.heap.put L (some (.loop ⟨36,TT,[17],(rfOf Tryd.prog 60 0).1,(rfOf Tryd.prog 60 0).2,none,.busy⟩))).put L (some (.loop (if v ∈ R then ⟨36,TT,[17],(rfOf Tryd.prog 60 0).1,(rfOf Tryd.prog 60 0).2,some (.exit 1),.done⟩ else ⟨36,TT,[17],(rfOf Tryd.prog 60 0).1,(rfOf Tryd.prog 60 0).2,none,.ready⟩))),w.next,w.lim⟩) hlo rfl rfl ta60_0 tb60_0 (by
  by_cases hm:v ∈ R
  ·simp [mc60_a0,mc60_b0,hlo,hlm,jumpOf,t2,e2,hcw,r83,hm]
  ·simp [mc60_a0,mc60_b0,hlo,hlm,jumpOf,t2,e2,hcw,r83,hm])
 obtain ⟨rfl,rfl⟩:=hQ
 have hd:(if v ∈ R then some (Code.exit 1) else none).isNone=!decide (v ∈ R):=by by_cases hm:v ∈ R <;> simp [hm]
 rw [hd] at hy
 refine ⟨_,hy,?_,fun x h1 h2=>?_,Nat.le_refl _,rfl⟩
 ·show ((w.heap.put L _).put L _).get L=_
  rw [get_put,if_pos rfl]
 ·show ((w.heap.put L _).put L _).get x=_
  rw [get_put,if_neg h2,get_put,if_neg h2]
end Go.Proofs.YtaiiampennkhiaaDoor.walk
namespace Go.Proofs.YtaiiampennkhiaaDoor.walk
open Go Go.Sh
open known (partsC laidL noOv)
set_option maxRecDepth 100000
set_option linter.unusedSimpArgs false
@[simp] theorem offC_10 (o:Off) (h:10 < (offC o).length):(offC o)[10]=.int .i64 o.i:=by simp [offC,podC]
structure In60 (w0:AW) (N c2:Nat) (s:List Int × List Int) (rv av:Value) (Br Ba:Nat) (w:AW):Prop where
 old:∀ x,x≤N→x ≠ c2→w.heap.get x=w0.heap.get x
 cell:w.heap.get c2=some (.cells [rv] 33 false)
 ar:AccI N w rv s.1 Br
 aa:AccI N w av s.2 Ba
 ne:Br=Ba→Br=0
 next:N < w.next
 lim:w.lim=w0.lim
def offFit (o:Off):Prop:=oH o - oL o≤1000 ∧ -10000≤oL o∧oH o≤10000
set_option maxHeartbeats 4000000 in
theorem loop60 {ov:Ov} (q:Nat) (ho82:∀ args w,ov 82 args w=none) (ho95:∀ args w,ov 95 args w=none) (h81:HasP ov 81 F81) (h83:HasP ov 83 F83) (h85:HasP ov 85 F85) (L:List Off) (h12:L.length≤12) (hfit:∀ o ∈ L,offFit o) (N c2:Nat) (v:Value) (w0:AW) (hN:w0.next=N + 1) (hlim:w0.lim≤c2) (hc2:c2 < N) (hv:RowsV offC w0 v L) (hvc:∀ (b off:Nat) sq n c,v=.slice (some ⟨b,off,sq⟩) n c→b ≠ c2)
  (Q:Ex→Tm→AW→Prop) (t:Tm) (w:AW) (hw:In60 w0 N c2 ([],[]) (.slice none 0 0) (.slice none 0 0) 0 0 w)
  (t2:tget t 2=.pointer (some ⟨c2,0,none⟩)) (t3:tget t 3=.slice none 0 0) (t8:tget t 8=v) (t9:tget t 9=.int .i64 (L.length:Nat)) (t10:tget t 10=.int .i64 0)
  (hQ:∀ t w rv av Br Ba,In60 w0 N c2 (serveS L) rv av Br Ba w→tget t 2=.pointer (some ⟨c2,0,none⟩)→tget t 3=av→Q (.exit 0) t w) :
  wp (exY Tryd.prog (run Tryd.prog ov (q + 5)) (.loop mc60_l0) t w) Q:=by
 refine wp_roundsY (fun i t w=>∃ rv av Br Ba,In60 w0 N c2 (serveS (L.take i)) rv av Br Ba w∧tget t 2=.pointer (some ⟨c2,0,none⟩)∧tget t 3=av∧tget t 8=v∧tget t 9=.int .i64 (L.length:Nat)∧tget t 10=.int .i64 (i:Nat)∧i≤L.length) 200 (by decide) ⟨_,_,_,_,hw,t2,t3,t8,t9,t10,Nat.zero_le _⟩ ?_
 clear t2 t3 t8 t9 t10 hw
 rintro i t w ⟨rv,av,Br,Ba,hw,t2,t3,t8,t9,t10,hi⟩
 by_cases hlt:i < L.length
 ·obtain ⟨o,ho⟩:∃ o,L[i]?=some o:=⟨_,List.getElem?_eq_getElem hlt⟩
  have hfo:=hfit o (List.mem_of_getElem? ho)
  obtain ⟨b,off,sq,c,rfl,hr⟩:=hv.at_ i hlt
  have hbc:=hvc b off sq _ c rfl
  have hb:b≤N:=by have:=hr.2; omega
  have hld:=hr.rd (m:=11) offC_length ho
  rw [← hw.old b hb hbc] at hld
  have hnx:=hw.next
  have hlm:=hw.lim
  have lw:w.lim≤w.next:=by omega
  have e1:¬ b=w.next:=by omega
  have e2:¬ c2=w.next:=by omega
  have hia:=fun w=>ia91 w ⟨b,off,sq⟩ L.length c .i64 i hlt
  have hw1:IntKind.wrap .i64 ((i:Int) + 1)=(i:Int) + 1:=wrap64_in (by omega) (by omega)
  have hcell:=hw.cell
  have hss:serveS (L.take (i + 1))=stepS (serveS (L.take i)) o:=fold_snoc' ho _
  obtain ⟨s,hs⟩:∃ s,s=serveS (L.take i):=⟨_,rfl⟩
  have hsl:s.1.length≤12∧s.2.length≤12:=by
   have:=foldS_len (L.take i) ([],[])
   rw [hs]; unfold serveS
   simp only [List.length_take,List.length_nil] at this
   omega
  rw [← hs] at hw hss
  obtain ⟨_,_,c82,rfl,rfl⟩:=call82 (ov:=ov) (q + 4) ho82 o ⟨(w.heap.put w.next (some (.cells [.string ⟨⟨[]⟩⟩,.int .i64 0,.int .i64 0,.int .i64 0,.int .i64 0,.int .i64 0,.int .i64 0,.int .i64 0,.int .i64 0,.int .i64 0,.int .i64 0] 114 false))).put w.next (some (.cells (offC o) 114 false)),w.next + 1,w.lim⟩
  simp only [Nat.add_assoc,Nat.reduceAdd] at c82
  simp [mc60_l0,t2,t3,t8,t9,t10,hlt,hia,hld,lw,e1,cellsOf_agg,c82]
  obtain ⟨H,hH⟩:∃ H,H=((w.heap.put w.next (some (.cells [.string ⟨⟨[]⟩⟩,.int .i64 0,.int .i64 0,.int .i64 0,.int .i64 0,.int .i64 0,.int .i64 0,.int .i64 0,.int .i64 0,.int .i64 0,.int .i64 0] 114 false))).put w.next (some (.cells (offC o) 114 false))).put (w.next + 1) (some (.cells [.iface 114 (.agg ⟨offC o⟩)] 131 false)):=⟨_,rfl⟩
  rw [← hH]
  have hHo:∀ x,x < w.next→H.get x=w.heap.get x:=fun x hx=>by
   rw [hH,get_put,if_neg (by omega),get_put,if_neg (by omega),get_put,if_neg (by omega)]
  have g5:H.get w.next=some (.cells (offC o) 114 false):=by rw [hH,get_put,if_neg (by omega),get_put,if_pos rfl]
  have gi:H.get (w.next + 1)=some (.cells [.iface 114 (.agg ⟨offC o⟩)] 131 false):=by rw [hH,get_put,if_pos rfl]
  refine wp_seqX (wp_blockX (wp_seqX (wp_blockX (rf_wp (g:=95) (gargs:=[.func (.yield (w.next + 2)) ⟨[]⟩ ⟨[]⟩,.pointer (some ⟨w.next + 1,0,none⟩)]) ?_ ?_))))
  ·simp [fun95,callV_func]
  ·generalize hTT:tset _ 16 _=TT
   have u2:tget TT 2=.pointer (some ⟨c2,0,none⟩):=by rw [← hTT]; simp [t2]
   have u3:tget TT 3=av:=by rw [← hTT]; simp [t3]
   have u5:tget TT 5=.pointer (some ⟨w.next,0,none⟩):=by rw [← hTT]; simp
   have u8:tget TT 8=.slice (some ⟨b,off,sq⟩) L.length c:=by rw [← hTT]; simp [t8]
   have u9:tget TT 9=.int .i64 (L.length:Nat):=by rw [← hTT]; simp [t9]
   have u10:tget TT 10=.int .i64 (i:Nat):=by rw [← hTT]; simp [t10]
   clear hTT
   obtain ⟨lp,hlp⟩:∃ lp:ALoop,lp=⟨36,TT,[17],(rfOf Tryd.prog 60 0).1,(rfOf Tryd.prog 60 0).2,none,.ready⟩:=⟨_,rfl⟩
   obtain ⟨lq,hlq⟩:∃ lp:ALoop,lp=⟨36,TT,[17],(rfOf Tryd.prog 60 0).1,(rfOf Tryd.prog 60 0).2,some (.exit 1),.done⟩:=⟨_,rfl⟩
   rw [← hlp]
   have hwe:∀ x,x < w.next + 2→(H.put (w.next + 2) (some (.loop lp))).get x=H.get x:=fun x hx=>by rw [get_put,if_neg (by omega)]
   have hst:StepY ov (q + 3 + 1) (w.next + 2) ⟨H.put (w.next + 2) (some (.loop lp)),w.next + 2 + 1,w.lim⟩ s.1 lp lq:=by
    rw [hlp,hlq]
    exact stepsY (q + 2) (w.next + 2) c2 h83 s.1 (by omega) rv TT u2 ⟨H,w.next + 2,w.lim⟩ _ rfl (by omega) ((accI_rows hw.ar).old (fun x hx=>hHo x hx) (by show w.next≤w.next + 2; omega)) (by show H.get c2=_; rw [hHo c2 (by omega)]; exact hcell) (by show w.lim≤w.next + 2; omega) (by show w.next + 2 < w.next + 2 + 1; omega) (fun x hx=>by show (H.put (w.next + 2) _).get x=H.get x; rw [get_put,if_neg (by omega)])
   obtain ⟨v9,w2,hc95,hI⟩:=call95 (q + 3) (w.next + 2) ho95 h85 _ (by show w.next + 2 < w.next + 2 + 1; omega) (by show w.lim≤w.next + 2 + 1; omega) s.1 lp lq hst o hfo.1 hfo.2 (w.next + 1) (by show (H.put _ _).get _=_; rw [hwe _ (by omega)]; exact gi) (by show (H.put _ _).get _=_; rw [get_put,if_pos rfl])
   have hn2:w.next + 2 + 1≤w2.next:=hI.next
   have hl2:w2.lim=w.lim:=hI.lim
   have ho2:∀ x,x < w.next + 2→w2.heap.get x=H.get x:=fun x hx=>by rw [hI.old x (by show x < w.next + 2 + 1; omega) (by omega)]; exact hwe x hx
   have hlo:=hI.lo
   refine ⟨v9,w2,hc95,_,hlo,?_,by show w2.lim≤w.next + 2; omega,?_⟩
   ·rw [hlp,hlq]; split <;> rfl
   by_cases hh:hitO o s.1
   ·rw [if_pos hh] at hlo ⊢
    have hse:stepS s o=s:=by unfold stepS; rw [if_pos hh]
    rw [hse] at hss
    rw [hlq]
    simp [u2,u3,u8,u9,u10,hw1]
    have hk:∀ (o':Option AObj) x,x < w.next→(w2.heap.put (w.next + 2) o').get x=w.heap.get x:=fun o' x hx=>by rw [get_put,if_neg (by omega),ho2 x (by omega),hHo x hx]
    refine ⟨by omega,rv,av,⟨Br,Ba,?_⟩,rfl,hlt⟩
    rw [hss]
    exact ⟨fun x h1 h2=>by show (w2.heap.put _ _).get x=_; rw [hk _ x (by omega)]; exact hw.old x h1 h2,by show (w2.heap.put _ _).get c2=_; rw [hk _ c2 (by omega)]; exact hcell,hw.ar.keep (B0:=0) (fun x h1 _ _=>hk _ x h1) (by show w.next≤w2.next; omega) id,hw.aa.keep (B0:=0) (fun x h1 _ _=>hk _ x h1) (by show w.next≤w2.next; omega) id,hw.ne,by show N < w2.next; omega,by show w2.lim=w0.lim; omega⟩
   ·rw [if_neg hh] at hlo ⊢
    have hse:stepS s o=(s.1++[oH o],s.2++[o.i]):=by unfold stepS; rw [if_neg hh]
    rw [hse] at hss
    rw [hlp]
    simp only
    obtain ⟨H2,hH2⟩:∃ H2,H2=w2.heap.put (w.next + 2) (some (.loop ⟨36,TT,[17],(rfOf Tryd.prog 60 0).1,(rfOf Tryd.prog 60 0).2,none,.exhausted⟩)):=⟨_,rfl⟩
    rw [← hH2]
    have hk:∀ x,x < w.next→H2.get x=w.heap.get x:=fun x hx=>by rw [hH2,get_put,if_neg (by omega),ho2 x (by omega),hHo x hx]
    have ar2:AccI N ⟨H2,w2.next,w2.lim⟩ rv s.1 Br:=hw.ar.keep (B0:=0) (fun x h1 _ _=>hk x h1) (by show w.next≤w2.next; omega) id
    have aa2:AccI N ⟨H2,w2.next,w2.lim⟩ av s.2 Ba:=hw.aa.keep (B0:=0) (fun x h1 _ _=>hk x h1) (by show w.next≤w2.next; omega) id
    have brl:=hw.ar.lt (by omega:0 < w.next)
    have bal:=hw.aa.lt (by omega:0 < w.next)
    obtain ⟨v1,w3,Br',ha1,hac1,hkp1,hB1,hn3,hl3⟩:=int_push ar2 (by show w2.lim≤N; omega) (by show N < w2.next; omega) (by omega) (oH o)
    have hn3':w2.next≤w3.next:=hn3
    have hl3':w3.lim=w2.lim:=hl3
    have hB1':w2.next≤Br':=hB1
    have brl1:=hac1.lt (by omega:0 < w3.next)
    have aa3:AccI N w3 av s.2 Ba:=aa2.keep (B0:=Br) (fun x h1 h2 _=>hkp1 x h1 h2) hn3 (fun h=>by have:=hw.ne h.symm; omega)
    have hbr0:Br=0∨N < Br:=by
     rcases hw.ar with ⟨_,_,h⟩ | ⟨_,_,h,_⟩
     ·exact .inl h
     ·exact .inr h
    have hba0:Ba=0∨N < Ba:=by
     rcases hw.aa with ⟨_,_,h⟩ | ⟨_,_,h,_⟩
     ·exact .inl h
     ·exact .inr h
    obtain ⟨H4,hH4⟩:∃ H4,H4=w3.heap.put c2 (some (.cells [v1] 33 false)):=⟨_,rfl⟩
    have ar4:AccI N ⟨H4,w3.next,w3.lim⟩ v1 (s.1++[oH o]) Br':=hac1.keep (B0:=0) (fun x h1 _ h3=>by show H4.get x=_; rw [hH4,get_put,if_neg (by omega)]) (Nat.le_refl _) id
    have aa4:AccI N ⟨H4,w3.next,w3.lim⟩ av s.2 Ba:=aa3.keep (B0:=0) (fun x h1 _ h3=>by show H4.get x=_; rw [hH4,get_put,if_neg (by omega)]) (Nat.le_refl _) id
    obtain ⟨v2,w5,Ba',ha2,hac2,hkp2,hB2,hn5,hl5⟩:=int_push aa4 (by show w3.lim≤N; omega) (by show N < w3.next; omega) (by omega) o.i
    have hn5':w3.next≤w5.next:=hn5
    have hl5':w5.lim=w3.lim:=hl5
    have hB2':w3.next≤Ba':=hB2
    have ar5:AccI N w5 v1 (s.1++[oH o]) Br':=ar4.keep (B0:=Ba) (fun x h1 h2 _=>hkp2 x h1 h2) hn5 (fun h=>by omega)
    have hcell2:H2.get c2=some (.cells [rv] 33 false):=by rw [hk c2 (by omega)]; exact hcell
    have hcell3:w3.heap.get c2=some (.cells [rv] 33 false):=by rw [hkp1 c2 (by show c2 < w2.next; omega) (fun h=>by omega)]; exact hcell2
    have g52:H2.get w.next=some (.cells (offC o) 114 false):=by rw [hH2,get_put,if_neg (by omega),ho2 _ (by omega)]; exact g5
    have g53:w3.heap.get w.next=some (.cells (offC o) 114 false):=by rw [hkp1 _ (by show w.next < w2.next; omega) (fun h=>by omega)]; exact g52
    have g54:H4.get w.next=some (.cells (offC o) 114 false):=by rw [hH4,get_put,if_neg (by omega)]; exact g53
    have r81:=fun w=>rule81 h81 o (q + 4) w
    simp only [Nat.add_assoc,Nat.reduceAdd] at r81
    have l3:w3.lim≤c2:=by omega
    have s1:=accI_single hac1
    have e3:¬ c2=w.next:=by omega
    have e4:¬ w.next=c2:=by omega
    have e5:¬ c2=w2.next:=by omega
    have e6:¬ w.next=w2.next:=by omega
    have sm:=ar2.same
    have sg1:singles [v1]=true:=by
     rcases hac1 with ⟨_,rfl,_⟩ | ⟨rfl,_⟩ <;> rfl
    have nj1:=accI_ok hac1
    have nj2:=accI_ok hac2
    obtain ⟨H3,n3,m3⟩:=w3
    dsimp only at hn3' hl3' l3 hcell3 g53 ha1 hH4 hn5' hl5' hB2' brl1
    rw [hH4] at ha2
    simp [u2,u3,u5,u8,u9,u10,hw1,hcell2,g52,r81,e5,e6,sm,ha1,hcell3,l3,s1,sg1,g53,e4,ha2]
    rw [hss]
    refine ⟨by omega,v1,v2,⟨Br',Ba',⟨fun x h1 h2=>?_,?_,ar5,hac2,fun h=>by omega,by omega,by omega⟩⟩,rfl,hlt⟩
    ·rw [hkp2 x (by show x < n3; omega) (fun h=>by omega),hH4]
     show (H3.put c2 _).get x=_
     rw [get_put,if_neg h2,hkp1 x (by show x < w2.next; omega) (fun h=>by omega)]
     show H2.get x=_
     rw [hk x (by omega)]
     exact hw.old x h1 h2
    ·rw [hkp2 c2 (by show c2 < n3; omega) (fun h=>by omega),hH4]
     show (H3.put c2 _).get c2=_
     rw [get_put,if_pos rfl]
 ·have hi':i=L.length:=by omega
  subst hi'
  simp [mc60_l0,t9,t10]
  rw [List.take_length] at hw
  exact hQ _ _ _ _ _ _ hw (by simp [t2]) (by simp [t3])
set_option maxHeartbeats 2000000 in
theorem call60 {ov:Ov} (q:Nat) (ho:∀ args w,ov 60 args w=none) (ho80:∀ args w,ov 80 args w=none) (ho91:∀ args w,ov 91 args w=none) (ho92:∀ args w,ov 92 args w=none) (ho102:∀ args w,ov 102 args w=none) (ho115:∀ args w,ov 115 args w=none) (ho82:∀ args w,ov 82 args w=none) (ho95:∀ args w,ov 95 args w=none) (ho84:∀ args w,ov 84 args w=none) (ho97:∀ args w,ov 97 args w=none) (ho104:∀ args w,ov 104 args w=none) (h93:HasP ov 93 F93) (h81:HasP ov 81 F81) (h83:HasP ov 83 F83) (h85:HasP ov 85 F85) (h98:HasP ov 98 F114) (h110:HasP ov 110 F110) (os:List Off) (h12:os.length≤12) (hfit:∀ o ∈ os,offFit o) (N0:Nat) (u:Value) (w:AW) (hl:w.lim≤w.next) (hu:AccR offC 114 N0 w u os) :
  ∃ x w',(run Tryd.prog ov (q + 6)).call 60 [u] w .none=.ok (.ret x) w' .none∧∃ rv av L A,x=.tuple ⟨[rv,av]⟩∧RowsV intC w' rv (serveS L).1∧RowsV intC w' av A∧L.Perm os∧SortTo oH L L.length∧A.Perm (serveS L).2∧SortTo id A A.length∧Old w.next w.heap w'.heap∧w.next≤w'.next∧w'.lim=w.lim:=by
 refine call_wpY text60 (by simp) (ho _ _) ?_
 obtain ⟨H1,hH1⟩:∃ H1,H1=w.heap.put w.next (some (.cells [.slice none 0 0] 33 false)):=⟨_,rfl⟩
 have o1:Old w.next w.heap H1:=by rw [hH1]; exact (Old.refl _ _).put (Nat.le_refl _)
 have hu1:AccR offC 114 N0 ⟨H1,w.next + 1,w.lim⟩ u os:=hu.keep (fun x _ hx=>o1 x hx) (Nat.le_succ _)
 obtain ⟨v,w1,c80,B,L,q1,q2,q3,q4,q5,q6,q7,q8⟩:=call80 q ho80 ho91 ho92 ho102 ho115 h93 os h12 N0 u _ (by show w.lim≤w.next + 1; omega) hu1
 have q4':w.next + 1≤B:=q4
 have q7':w.next + 1 < w1.next:=q7
 have q8':w1.lim=w.lim:=q8
 have hlen:L.length=os.length:=q2.length_eq
 obtain ⟨N,hN⟩:∃ N,w1.next=N + 1:=⟨w1.next - 1,by omega⟩
 have hrow:RowsV offC w1 v L:=by
  rcases q1 with ⟨rfl,rfl⟩ | ⟨rfl,h⟩
  ·exact .inl ⟨rfl,_,_,rfl⟩
  ·rcases q5 with rfl | hB
   ·exact .inl ⟨rfl,_,_,rfl⟩
   ·exact .inr ⟨B,0,none,_,rfl,⟨[],[],114,false,by simpa using h,rfl⟩,hB⟩
 have hvc:∀ (b off:Nat) sq n c,v=.slice (some ⟨b,off,sq⟩) n c→b ≠ w.next:=fun b off sq n c h=>by
  rcases q1 with ⟨_,rfl⟩ | ⟨rfl,_⟩
  ·cases h
  ·cases h; omega
 have hcell:w1.heap.get w.next=some (.cells [.slice none 0 0] 33 false):=by
  rw [q6 _ (by show w.next < w.next + 1; omega)]; show H1.get _=_; rw [hH1,get_put,if_pos rfl]
 have hlv:=len91V hrow
 have nj:notJunk v=some v:=by
  rcases q1 with ⟨_,rfl⟩ | ⟨rfl,_⟩ <;> rfl
 rw [hH1] at c80
 unfold fun81 at c80
 simp [mc60,c80,hlv,nj]
 refine wp_seqX (wp_blockX (loop60 q ho82 ho95 h81 h83 h85 L (by omega) (fun o ho=>hfit o ((q2.mem_iff).1 ho)) N w.next v w1 hN (by omega) (by omega) hrow hvc _ _ _ ⟨fun _ _ _=>rfl,hcell,.inl ⟨rfl,rfl,rfl⟩,.inl ⟨rfl,rfl,rfl⟩,fun h=>h,by omega,rfl⟩ ?_ ?_ ?_ ?_ ?_ ?_))
 case _=>simp
 case _=>simp
 case _=>simp
 case _=>simp
 case _=>simp
 case _ =>
  intro t w2 rv av Br Ba hw t2 t3
  have hnx:=hw.next
  have hlm:=hw.lim
  have hsl:=foldS_len L ([],[])
  have hsl2:(serveS L).2.length≤12:=by
   unfold serveS
   simp only [List.length_nil] at hsl
   omega
  obtain ⟨B',hB,hB1,hB2,hB3,hB4⟩:∃ B',RowB intC 3 w2 av B' (serveS L).2∧w2.lim≤B'∧N < B'∧B' ≠ Br∧((serveS L).2=[]∨B' < w2.next):=by
   rcases hw.aa with ⟨h1,h2,h3⟩ | ⟨h1,h2,h3,h4⟩
   ·exact ⟨w2.next,.inl ⟨h1,h2⟩,by omega,hnx,by have:=hw.ar.lt (by omega:0 < w2.next); omega,.inl h1⟩
   ·exact ⟨Ba,.inr ⟨h1,h2⟩,by omega,h3,fun h=>by have:=hw.ne h.symm; omega,.inr h4⟩
  obtain ⟨_,w3,c84,rfl,A,r1,r2,r3,r4,r5,r6⟩:=call84 (q + 1) ho84 ho97 ho104 h98 h110 (serveS L).2 hsl2 B' av w2 hB1 hB
  have hc3:w3.heap.get w.next=some (.cells [rv] 33 false):=by rw [r4 _ (by omega) (by omega)]; exact hw.cell
  have l3:w3.lim≤w.next:=by omega
  have sg1:singles [rv]=true:=by
   rcases hw.ar with ⟨_,rfl,_⟩ | ⟨rfl,_⟩ <;> rfl
  have s1:=accI_single hw.ar
  have nj1:=accI_ok hw.ar
  have nj2:=accI_ok hw.aa
  simp only [Nat.add_assoc,Nat.reduceAdd] at c84
  obtain ⟨H3,n3,m3⟩:=w3
  dsimp only at hc3 l3 r4 r5 r6
  simp [t2,t3,c84,hc3,l3,s1,sg1,nj1,nj2,tupV]
  have hk:∀ x,x < w2.next→x ≠ B'→x ≠ w.next→(H3.put w.next (some (.cells [rv] 33 false))).get x=w2.heap.get x:=fun x h1 h2 h3=>by rw [get_put,if_neg h3,r4 x h1 h2]
  refine ⟨rv,av,⟨rfl,rfl⟩,L,?_,A,?_,q2,q3,r2,by rw [r2.length_eq]; exact r3,?_,?_,?_⟩
  ·exact accI_rows (hw.ar.keep (B0:=B') (w':=⟨H3.put w.next (some (.cells [rv] 33 false)),n3,m3⟩) (fun x h1 h2 h3=>hk x h1 (fun e=>by have:=h2 e; omega) (by omega)) (by show w2.next≤n3; omega) (fun h=>absurd h.symm hB3))
  ·rcases r1 with ⟨rfl,rfl⟩ | ⟨rfl,h⟩
   ·exact .inl ⟨rfl,_,_,rfl⟩
   ·rcases hB4 with h4 | h4
    ·have:A=[]:=List.Perm.eq_nil (h4 ▸ r2)
     subst this
     exact .inl ⟨rfl,_,_,rfl⟩
    ·refine .inr ⟨B',0,none,_,rfl,⟨[],[],3,false,?_,rfl⟩,by show B' < n3; omega⟩
     show (H3.put w.next _).get B'=_
     rw [get_put,if_neg (by omega)]
     simpa using h
  ·intro x hx
   show (H3.put w.next _).get x=_
   rw [hk x (by omega) (by omega) (by omega),hw.old x (by omega) (by omega),q6 x (by show x < w.next + 1; omega)]
   exact o1 x hx
  ·omega
  ·omega
end Go.Proofs.YtaiiampennkhiaaDoor.walk
namespace Go.Proofs.YtaiiampennkhiaaDoor.walk
open Go Go.Sh
open known (partsC laidL noOv)
set_option maxRecDepth 100000
set_option linter.unusedSimpArgs false
def offIn (o:Off):Prop:=0≤oL o∧oL o≤oH o∧oH o≤2000
def chosenO (last:Int):List Off→List Off
 | []=>[]
 | o::S=>if oL o≤last then chosenO last S else o::chosenO (oH o) S
theorem chosen_sub:∀ (S:List Off) (last:Int),(chosenO last S).Sublist S
 | [],_=>List.Sublist.refl _
 | o::S,last=>by
  unfold chosenO
  split
  ·exact (chosen_sub S last).cons o
  ·exact (chosen_sub S (oH o)).cons_cons o
theorem chosen_apart:∀ (S:List Off) (last:Int),(∀ o ∈ S,oL o≤oH o)→(∀ o ∈ chosenO last S,last < oL o)∧(chosenO last S).Pairwise (fun a b=>oH a < oL b)
 | [],_,_=>⟨fun o h=>by simp [chosenO] at h,List.Pairwise.nil⟩
 | o::S,last,h=>by
  have h':∀ x ∈ S,oL x≤oH x:=fun x hx=>h x (List.mem_cons_of_mem _ hx)
  unfold chosenO
  split
  ·exact chosen_apart S last h'
  ·rename_i hn
   obtain ⟨a1,a2⟩:=chosen_apart S (oH o) h'
   have ho:=h o (by simp)
   refine ⟨fun x hx=>?_,List.Pairwise.cons (fun x hx=>a1 x hx) a2⟩
   rcases List.mem_cons.1 hx with rfl | hx
   ·omega
   ·have:=a1 x hx; omega
theorem fold_chosen:∀ (S:List Off) (last:Int) (s:List Int × List Int),S.Pairwise (fun a b=>oH a≤oH b)→(∀ o ∈ S,offIn o)→(∀ o ∈ S,last≤oH o)→(∀ d ∈ s.1,d≤last)→(last ∈ s.1∨last = -1) →
  S.foldl stepS s=(s.1++(chosenO last S).map oH,s.2++(chosenO last S).map Off.i)
 | [],last,s,_,_,_,_,_=>by simp [chosenO]
 | o::S,last,s,hp,hin,hle,hs,hl=>by
  obtain ⟨p1,p2⟩:=List.pairwise_cons.1 hp
  have hin':∀ x ∈ S,offIn x:=fun x hx=>hin x (List.mem_cons_of_mem _ hx)
  obtain ⟨i1,i2,i3⟩:=hin o (by simp)
  have ho:=hle o (by simp)
  rw [List.foldl_cons]
  unfold chosenO
  by_cases hc:oL o≤last
  ·have hh:hitO o s.1:=by
    rcases hl with h | h
    ·exact ⟨last,h,hc,ho⟩
    ·omega
   have e:stepS s o=s:=by unfold stepS; rw [if_pos hh]
   rw [if_pos hc,e]
   exact fold_chosen S last s p2 hin' (fun x hx=>hle x (List.mem_cons_of_mem _ hx)) hs hl
  ·have hh:¬ hitO o s.1:=fun ⟨d,h1,h2,_⟩=>by have:=hs d h1; omega
   have e:stepS s o=(s.1++[oH o],s.2++[o.i]):=by unfold stepS; rw [if_neg hh]
   rw [if_neg hc,e,fold_chosen S (oH o) _ p2 hin' (fun x hx=>p1 x hx) (fun d hd=>by
    rcases List.mem_append.1 hd with h | h
    ·have:=hs d h; omega
    ·simp at h; omega) (.inl (by simp))]
   simp
def minH (L:List Off):Int:=L.foldl (fun d o=>min d (oH o)) 2000
theorem minF:∀ (L:List Off) (d:Int),L.foldl (fun d o=>min d (oH o)) d≤d∧(∀ o ∈ L,L.foldl (fun d o=>min d (oH o)) d≤oH o)∧(L.foldl (fun d o=>min d (oH o)) d=d∨∃ o ∈ L,L.foldl (fun d o=>min d (oH o)) d=oH o)
 | [],d=>⟨Int.le_refl _,fun o h=>by simp at h,.inl rfl⟩
 | o::L,d=>by
  obtain ⟨h1,h2,h3⟩:=minF L (min d (oH o))
  simp only [List.foldl_cons]
  refine ⟨by omega,fun x hx=>?_,?_⟩
  ·rcases List.mem_cons.1 hx with rfl | hx
   ·omega
   ·exact h2 x hx
  ·rcases h3 with h | ⟨x,hx,h⟩
   ·by_cases e:d≤oH o
    ·exact .inl (by omega)
    ·exact .inr ⟨o,by simp,by omega⟩
   ·exact .inr ⟨x,List.mem_cons_of_mem _ hx,h⟩
theorem minH_eq {L:List Off} {m:Int} (h1:m≤2000) (h2:∀ o ∈ L,m≤oH o) (h3:∃ o ∈ L,oH o=m):minH L=m:=by
 obtain ⟨a1,a2,a3⟩:=minF L 2000
 obtain ⟨o,ho,he⟩:=h3
 have b1:minH L≤m:=by have:=a2 o ho; unfold minH; omega
 rcases a3 with h | ⟨x,hx,h⟩
 ·unfold minH at *; omega
 ·have:=h2 x hx; unfold minH at *; omega
def grd:Nat→List Off→List Int
 | 0,_=>[]
 | k + 1,L=>if L=[] then [] else minH L::grd k (L.filter fun o=>decide (minH L < oL o))
theorem minH_perm {L L':List Off} (h:L.Perm L'):minH L=minH L':=by
 obtain ⟨a1,a2,a3⟩:=minF L 2000
 obtain ⟨b1,b2,b3⟩:=minF L' 2000
 have c1:minH L≤minH L':=by
  unfold minH
  rcases b3 with e | ⟨o,ho,e⟩
  ·omega
  ·have:=a2 o ((h.mem_iff).2 ho); omega
 have c2:minH L'≤minH L:=by
  unfold minH
  rcases a3 with e | ⟨o,ho,e⟩
  ·omega
  ·have:=b2 o ((h.mem_iff).1 ho); omega
 omega
theorem grd_perm:∀ (k:Nat) {L L':List Off},L.Perm L'→grd k L=grd k L'
 | 0,_,_,_=>rfl
 | k + 1,L,L',h=>by
  unfold grd
  by_cases e:L=[]
  ·subst e
   have:L'=[]:=List.Perm.eq_nil h.symm
   rw [this]
  ·have e':L' ≠ []:=fun h'=>e (List.Perm.eq_nil (h' ▸ h))
   rw [if_neg e,if_neg e',minH_perm h,grd_perm k (h.filter _)]
theorem grd_chosen:∀ (S:List Off) (last:Int) (k:Nat),S.Pairwise (fun a b=>oH a≤oH b)→(∀ o ∈ S,offIn o)→S.length≤k→grd k (S.filter fun o=>decide (last < oL o))=(chosenO last S).map oH
 | [],last,k,_,_,_=>by cases k <;> simp [grd,chosenO]
 | o::S,last,k,hp,hin,hk=>by
  obtain ⟨p1,p2⟩:=List.pairwise_cons.1 hp
  have hin':∀ x ∈ S,offIn x:=fun x hx=>hin x (List.mem_cons_of_mem _ hx)
  obtain ⟨i1,i2,i3⟩:=hin o (by simp)
  simp only [List.length_cons] at hk
  unfold chosenO
  by_cases hc:oL o≤last
  ·rw [if_pos hc,List.filter_cons_of_neg (by simpa using hc)]
   exact grd_chosen S last k p2 hin' (by omega)
  ·rw [if_neg hc,List.filter_cons_of_pos (by simp; omega)]
   obtain ⟨k,rfl⟩:∃ k',k=k' + 1:=⟨k - 1,by omega⟩
   have hm:minH (o::S.filter fun o=>decide (last < oL o))=oH o:=minH_eq i3 (fun x hx=>by
    rcases List.mem_cons.1 hx with rfl | hx
    ·exact Int.le_refl _
    ·exact p1 x (List.mem_filter.1 hx).1) ⟨o,by simp,rfl⟩
   unfold grd
   rw [if_neg (by simp),hm,List.filter_cons_of_neg (by simp; omega),List.filter_filter,List.map_cons]
   have:(S.filter fun a=>decide (oH o < oL a) && decide (last < oL a))=S.filter fun a=>decide (oH o < oL a):=by
    apply List.filter_congr
    intro x _
    by_cases e:oH o < oL x
    ·have:last < oL x:=by omega
     simp [e,this]
    ·simp [e]
   rw [this,grd_chosen S (oH o) k p2 hin' (by omega)]
theorem pair_of_sort {α:Type} {key:α→Int} {L:List α} (h:SortTo key L L.length):L.Pairwise (fun a b=>key a≤key b):=by
 rw [List.pairwise_iff_getElem]
 intro i j hi hj hij
 exact h i j _ _ hij hj (List.getElem?_eq_getElem hi) (List.getElem?_eq_getElem hj)
theorem serve_grd {L os:List Off} (hp:L.Perm os) (hs:SortTo oH L L.length) (hin:∀ o ∈ os,offIn o) {k:Nat} (hk:os.length≤k):(serveS L).1=grd k os∧serveS L=((chosenO (-1) L).map oH,(chosenO (-1) L).map Off.i):=by
 have hin':∀ o ∈ L,offIn o:=fun o ho=>hin o ((hp.mem_iff).1 ho)
 have hpw:=pair_of_sort hs
 have h1:=fold_chosen L (-1) ([],[]) hpw hin' (fun o ho=>by obtain ⟨a,b,_⟩:=hin' o ho; omega) (fun d hd=>by simp at hd) (.inr rfl)
 have h2:=grd_chosen L (-1) k hpw hin' (by rw [hp.length_eq]; exact hk)
 have h3:(L.filter fun o=>decide (-1 < oL o))=L:=List.filter_eq_self.2 fun o ho=>by obtain ⟨a,_⟩:=hin' o ho; simp; omega
 rw [h3,grd_perm k hp] at h2
 have h4:serveS L=((chosenO (-1) L).map oH,(chosenO (-1) L).map Off.i):=by unfold serveS; rw [h1]; simp
 exact ⟨by rw [h4,h2],h4⟩
end Go.Proofs.YtaiiampennkhiaaDoor.walk
namespace Go.Proofs.YtaiiampennkhiaaDoor.walk
open Go Go.Sh
open known (partsC laidL noOv)
set_option maxRecDepth 100000
set_option linter.unusedSimpArgs false
structure In24 (w0:AW) (lo hi:Int) (w:AW):Prop where
 old:∀ x,x < w0.next→w.heap.get x=w0.heap.get x
 box:w.heap.get w0.next=some (.cells [.int .i64 lo,.int .i64 hi] 26 false)
 next:w0.next < w.next
 lim:w.lim=w0.lim
def ofL (l:List Pod) (lo hi:Int) (o:Off):Prop:=∃ j:Nat,l[j]?=some o.p∧o.i=(j:Int)∧o.lo=lo∧o.hi=hi
end Go.Proofs.YtaiiampennkhiaaDoor.walk
