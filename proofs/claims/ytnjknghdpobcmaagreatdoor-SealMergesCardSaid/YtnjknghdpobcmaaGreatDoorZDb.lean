/- Part of a proof: see the text with the theorem. -/
import Derived.Test.YtnjknghdpobcmaaGreatDoorZDa
import Derived.Test.YtnjknghdpobcmaaGreatDoorZC
set_option linter.all false
namespace Go.Sh
open Go
theorem append_fits {P:Program} {st e:TypeId} {sz:Nat} (h0:isList P st=true) (h1:elemA P st=some e) (h2:szOf P e=some sz) (h3:smallT P e=true) {w:AW} {B k c m:Nat} {sq:Option Nat} {new pre rest:List Value} {x:Value} (h4:lenA x=some m) (h5:srcCells w sz x=some new) (hl:new.length=m * sz) (hs:singles new=true) (hm:0 < m) (hnm:k + m≤100000)
  (hB:w.heap.get B=some (.cells (pre++rest) e false)) (hp:pre.length=k * sz) (hr:rest.length=(c - k) * sz) (hc:k + m≤c) (hlim:w.lim≤B) :
  append1 P w [st,st] [.slice (some ⟨B,0,sq⟩) k c,x]=.val (.slice (some ⟨B,0,sq⟩) (k + m) c) ⟨w.heap.put B (some (.cells (pre++new++rest.drop (m * sz)) e false)),w.next,w.lim⟩:=by
 rw [append_eq h0 h1 h2 h3,h4,h5]
 have e1:Nat.ble (k + m) 1000000=true:=Nat.ble_eq_true_of_le (by omega)
 have e2:Nat.beq (lenL new 0) (m * sz)=true:=by rw [lenL0,hl]; exact Nat.beq_refl _
 have e3:Nat.beq m 0=false:=by rw [← Bool.not_eq_true]; intro h; have:=Nat.eq_of_beq_eq_true h; omega
 have e4:Nat.ble (k + m) c=true:=Nat.ble_eq_true_of_le hc
 have hmul:m * sz≤(c - k) * sz:=Nat.mul_le_mul_right _ (by omega)
 simp only [e1,e2,Bool.and_self,cond_true,appendB,e3,cond_false,e4,Nat.zero_add]
 rw [wr_eq,hB,wrO_cells hs hlim (by rw [List.length_append]; omega),← hp,List.take_left,← hl,List.drop_append,List.drop_of_length_le (by omega),Nat.add_sub_cancel_left,List.nil_append,← List.append_assoc]
 rfl
theorem append_none {P:Program} {st e:TypeId} {sz:Nat} (h0:isList P st=true) (h1:elemA P st=some e) (h2:szOf P e=some sz) (h3:smallT P e=true) (w:AW) (base a:Option Addr) (n c cap:Nat) (hn:n≤100000) :
  append1 P w [st,st] [.slice base n cap,.slice a 0 c]=.val (.slice base n cap) w:=by
 rw [append_eq h0 h1 h2 h3]
 have e5:srcCells w sz (.slice a 0 c)=some []:=by
  cases a with
  | none=>unfold srcCells; first | rfl | simp
  | some a =>
   show (bif Nat.beq (0 * sz) 0 then some [] else _)=_
   rw [Nat.zero_mul]; rfl
 have e4:lenA (.slice a 0 c)=some 0:=rfl
 rw [e4,e5]
 have e7:Nat.beq (lenL ([]:List Value) 0) 0=true:=rfl
 have e8:Nat.ble n 1000000=true:=Nat.ble_eq_true_of_le (by omega)
 simp [appendB,e7,e8]
theorem make_onto {P:Program} {st it e:TypeId} {z:Value} (h0:isList P it=false) (hi:isI64 P it=true) (h1:elemA P st=some e) (h2:zeroA P e=some z) (h3:smallT P e=true) (w:AW) (n:Nat) (hn:1≤n) (hn2:n≤100000) :
  append1 P w [st,it] [.slice none 0 0,.int .i64 (n:Int)]=.val (.slice (some ⟨w.next,0,none⟩) n n) ⟨w.heap.put w.next (some (.cells (repl (cellsOf z) n) e false)),w.next + 1,w.lim⟩:=by
 show (bif isList P it then appendA P w st (.slice none 0 0) (.int .i64 (n:Int)) else bif isI64 P it then makeOnto P w st n else .fail)=_
 have e1:Nat.ble n 1000000=true:=Nat.ble_eq_true_of_le (by omega)
 have e2:Nat.ble 1 n=true:=Nat.ble_eq_true_of_le hn
 simp [h0,hi,makeOnto,h1,h2,h3,e1,e2,newR,AW.add,rowV]
end Go.Sh
namespace Go.Proofs.YtnjknghdpobcmaaGreatDoor.walk
open Go Go.Sh
set_option maxRecDepth 100000
def zN:Value:=.agg ⟨[.int .i64 0,.string ⟨⟨[]⟩⟩,.int .i64 0,.string ⟨⟨[]⟩⟩,.string ⟨⟨[]⟩⟩,.int .i64 0,.int .i64 0,.int .i64 0,.int .i64 0]⟩
theorem cap22 (w:AW) (ty:TypeId):builtinA Tryz.prog w .cap #[22] ty [.slice none 0 0]=.val (.int .i64 0) w:=by kernel_rfl
theorem call94 {ov:Ov} (m:Nat) (ho:∀ args w,ov 94 args w=none) (n:Nat) (hn:1≤n) (hn2:n≤1000) (w:AW):∃ x w',(run Tryz.prog ov (m + 1)).call 94 [.slice none 0 0,.int .i64 (n:Int)] w .none=.ok (.ret x) w' .none∧x=.slice (some ⟨w.next,0,none⟩) 0 n∧w'=⟨w.heap.put w.next (some (.cells (repl (cellsOf zN) n) 62 false)),w.next + 1,w.lim⟩:=by
 refine call_wp text94 (by simp) (ho _ _) ?_
 have hm:=make_onto (P:=Tryz.prog) (st:=22) (it:=3) (e:=62) (z:=zN) (by kernel_rfl) (by kernel_rfl) (by kernel_rfl) (by kernel_rfl) (by kernel_rfl) w n hn (by omega)
 have st:=slice_head (P:=Tryz.prog) (st:=22) (e:=62) (sz:=9) (by kernel_rfl) (by kernel_rfl) (w:=⟨w.heap.put w.next (some (.cells (repl (cellsOf zN) n) 62 false)),w.next + 1,w.lim⟩) (a:=⟨w.next,0,none⟩) (n:=n) (c:=n) (k:=0) (cs:=repl (cellsOf zN) n) (e':=62) (ro:=false) (by simp) (by omega)
 have s0:sliceA Tryz.prog w 22 (.slice none 0 0) none (some (.int .i64 0)) none=.val (.slice none 0 0) w:=by kernel_rfl
 obtain ⟨z,hz⟩:∃ z:Int,z=(n:Int):=⟨_,rfl⟩
 rw [← hz] at hm ⊢
 have e0:IntKind.wrap .i64 0=0:=by decide
 have ez:IntKind.wrap .i64 z=z:=w6i (by omega) (by omega)
 have h1:¬ z < 0:=by omega
 have h2:0 < z:=by omega
 simp at st
 simp [mc94,cap22,h1,h2,e0,ez,s0,hm,st,tupV,notJunk]
theorem call94z {ov:Ov} (m:Nat) (ho:∀ args w,ov 94 args w=none) (w:AW):∃ x w',(run Tryz.prog ov (m + 1)).call 94 [.slice none 0 0,.int .i64 0] w .none=.ok (.ret x) w' .none∧x=.slice none 0 0∧w'=w:=by
 refine call_wp text94 (by simp) (ho _ _) ?_
 have e0:IntKind.wrap .i64 0=0:=by decide
 simp [mc94,cap22,e0,tupV,notJunk]
def ln2 (a b:Nat):Nat→Nat
 | 0=>0
 | 1=>a
 | _ + 2=>a + b
def ap2 {α:Type} (A B:List α):Nat→List α
 | 0=>[]
 | 1=>A
 | _ + 2=>A++B
theorem loop59a {r0:Rec} (v1 v2:Value) (n1 n2:Nat) (a1 a2:Option Addr) (c1 c2:Nat) (e1:v1=.slice a1 n1 c1) (e2:v2=.slice a2 n2 c2) (hn1:n1≤1000) (hn2:n2≤1000) (b:Nat) (w:AW) (hb:w.heap.get b=some (.cells [v1,v2] 22 false)) (sq:Option Nat) (Q:Ex→Tm→AW→Prop) (t:Tm)
  (t0:tget t 0=.slice (some ⟨b,0,sq⟩) 2 2) (t9:tget t 9=.slice (some ⟨b,0,sq⟩) 2 2) (t10:tget t 10=.int .i64 2) (t3:tget t 3=.int .i64 0) (t11:tget t 11=.int .i64 0)
  (hQ:∀ t,tget t 0=.slice (some ⟨b,0,sq⟩) 2 2→tget t 3=.int .i64 ((n1 + n2:Nat):Int)→Q (.exit 0) t w):wp (exM Tryz.prog r0 (.loop mc59_l0) t w) Q:=by
 refine wp_rounds (fun r t w'=>w'=w∧r≤2∧tget t 0=.slice (some ⟨b,0,sq⟩) 2 2∧tget t 9=.slice (some ⟨b,0,sq⟩) 2 2∧tget t 10=.int .i64 2∧tget t 3=.int .i64 ((ln2 n1 n2 r:Nat):Int)∧tget t 11=.int .i64 (r:Nat)) 4 (by decide) ⟨rfl,by omega,t0,t9,t10,t3,t11⟩ ?_
 clear t0 t9 t10 t3 t11
 rintro r t w1 ⟨hw,hr,t0,t9,t10,t3,t11⟩
 rw [hw]
 clear hw w1
 obtain ⟨s1,hs1⟩:∃ z:Int,z=(n1:Int):=⟨_,rfl⟩
 obtain ⟨s2,hs2⟩:∃ z:Int,z=(n2:Int):=⟨_,rfl⟩
 have k0:IntKind.wrap .i64 s1=s1:=w6i (by omega) (by omega)
 have k1:IntKind.wrap .i64 (s1 + s2)=s1 + s2:=w6i (by omega) (by omega)
 have k2:IntKind.wrap .i64 1=1:=by decide
 have k3:IntKind.wrap .i64 2=2:=by decide
 have k4:¬ s1 < 0:=by omega
 have k5:¬ s1 + s2 < 0:=by omega
 have i0:=ia113 w ⟨b,0,sq⟩ 2 2 .i64 0 (by decide)
 have i1:=ia113 w ⟨b,0,sq⟩ 2 2 .i64 1 (by decide)
 simp at i0 i1
 match r,hr with
 | 0,_ =>
  simp [ln2] at t3 t11
  subst e1
  simp [mc59_l0,t0,t9,t10,t3,t11,i0,hb,← hs1,k0,k2,k4,ln2]
 | 1,_ =>
  simp [ln2,← hs1] at t3 t11
  subst e2
  simp [mc59_l0,t0,t9,t10,t3,t11,i1,hb,← hs1,← hs2,k1,k3,k5,ln2]
 | 2,_ =>
  simp [ln2] at t3 t11
  simp [mc59_l0,t0,t9,t10,t3,t11]
  exact hQ _ (by simp [t0]) (by simp [t3])
 | r + 3,h=>omega
def CatV (w:AW) (B n:Nat) (A:List Nt) (v:Value):Prop:=(n=0∧v=.slice none 0 0)∨(0 < n∧v=.slice (some ⟨B,0,none⟩) A.length n∧∃ rest,w.heap.get B=some (.cells (A.flatMap ntC++rest) 62 false)∧rest.length=(n - A.length) * 9)
theorem cat_step {w0 w:AW} {B n:Nat} {A L:List Nt} {v x:Value} (h:CatV w B n A v) (hn:n≤1000) (hA:A.length + L.length≤n) (hx:RowsV ntC w x L) (hu:Up w0 w) (hB:w0.next≤B) (hl:w.lim≤B) :
  ∃ v' w',append1 Tryz.prog w [22,22] [v,x]=.val v' w'∧CatV w' B n (A++L) v'∧Up w0 w'∧w'.next=w.next:=by
 by_cases hL:L=[]
 ·subst hL
  obtain ⟨a,c,rfl⟩:=hx.len
  refine ⟨v,w,?_,by rw [List.append_nil]; exact h,hu,rfl⟩
  rcases h with ⟨rfl,rfl⟩ | ⟨_,rfl,_⟩
  ·exact append_none (st:=22) (e:=62) (sz:=9) (by kernel_rfl) (by kernel_rfl) (by kernel_rfl) (by kernel_rfl) w none a 0 c 0 (by omega)
  ·exact append_none (st:=22) (e:=62) (sz:=9) (by kernel_rfl) (by kernel_rfl) (by kernel_rfl) (by kernel_rfl) w _ a _ c n (by omega)
 ·have hpos:0 < L.length:=List.length_pos_iff.2 hL
  rcases h with ⟨rfl,rfl⟩ | ⟨h0,rfl,rest,hg,hr⟩
  ·omega
  ·obtain ⟨h5,h4⟩:=src_rows ntC_length (by decide) hx hL
   have ha:=append_fits (P:=Tryz.prog) (st:=22) (e:=62) (sz:=9) (by kernel_rfl) (by kernel_rfl) (by kernel_rfl) (by kernel_rfl) (sq:=none) h4 h5 (by rw [flat_length ntC_length]) (flat_singles ntC_singles _) hpos (k:=A.length) (c:=n) (by omega) hg (flat_length ntC_length _) hr (by omega) hl
   refine ⟨_,_,ha,.inr ⟨h0,by rw [List.length_append],rest.drop (L.length * 9),by simp [List.flatMap_append],by rw [List.length_drop,hr,List.length_append]; omega⟩,hu.put hB (Nat.le_refl _),rfl⟩
theorem loop59b {r0:Rec} (v1 v2:Value) (L1 L2:List Nt) (n:Nat) (hn:n=L1.length + L2.length) (hn1:n≤1000) (b B:Nat) (w0 w:AW) (hb:w0.heap.get b=some (.cells [v1,v2] 22 false)) (hb0:b < w0.next) (hB:w0.next≤B) (hl:w0.lim≤B) (sq:Option Nat) (h1:RowsV ntC w0 v1 L1) (h2:RowsV ntC w0 v2 L2) (hu:Up w0 w)
  (Q:Ex→Tm→AW→Prop) (t:Tm) (h6:CatV w B n [] (tget t 6)) (t25:tget t 25=.slice (some ⟨b,0,sq⟩) 2 2) (t26:tget t 26=.int .i64 2) (t27:tget t 27=.int .i64 0)
  (hQ:∀ t w',Up w0 w'→w'.next=w.next→CatV w' B n (L1++L2) (tget t 6)→Q (.exit 2) t w'):wp (exM Tryz.prog r0 (.loop mc59_l1) t w) Q:=by
 obtain ⟨N,hN⟩:∃ N,N=w.next:=⟨_,rfl⟩
 rw [← hN] at hQ
 refine wp_rounds (fun r t w=>r≤2∧Up w0 w∧w.next=N∧CatV w B n (ap2 L1 L2 r) (tget t 6)∧tget t 25=.slice (some ⟨b,0,sq⟩) 2 2∧tget t 26=.int .i64 2∧tget t 27=.int .i64 (r:Nat)) 4 (by decide) ⟨by omega,hu,hN.symm,h6,t25,t26,t27⟩ ?_
 clear h6 t25 t26 t27 hu hN
 rintro r t w ⟨hr,hu,hN,h6,t25,t26,t27⟩
 have k2:IntKind.wrap .i64 1=1:=by decide
 have k3:IntKind.wrap .i64 2=2:=by decide
 have i0:=ia113 w ⟨b,0,sq⟩ 2 2 .i64 0 (by decide)
 have i1:=ia113 w ⟨b,0,sq⟩ 2 2 .i64 1 (by decide)
 simp at i0 i1
 have hbw:=hu.at hb0
 rw [hb] at hbw
 have hlw:=hu.lim
 obtain ⟨a1,c1,e1⟩:=h1.len
 obtain ⟨a2,c2,e2⟩:=h2.len
 obtain ⟨v6,hv6⟩:∃ v,v=tget t 6:=⟨_,rfl⟩
 rw [← hv6] at h6
 have nj:∀ v:Value,(∃ a n c,v=.slice a n c)→notJunk v=some v:=fun v ⟨_,_,_,h⟩=>by rw [h]; rfl
 match r,hr with
 | 0,_ =>
  simp at t27
  obtain ⟨v',w',hap,hc,hu',hn'⟩:=cat_step (L:=L1) h6 hn1 (by simp [ap2]; omega) (h1.up hu) hu hB (by omega)
  subst e1
  simp [mc59_l1,t25,t26,t27,← hv6,i0,hbw,k2,hap]
  exact ⟨hu',by omega,by simpa [ap2] using hc⟩
 | 1,_ =>
  simp at t27
  obtain ⟨v',w',hap,hc,hu',hn'⟩:=cat_step (L:=L2) h6 hn1 (by simp [ap2]; omega) (h2.up hu) hu hB (by omega)
  subst e2
  simp [mc59_l1,t25,t26,t27,← hv6,i1,hbw,k3,hap]
  exact ⟨hu',by omega,by simpa [ap2] using hc⟩
 | 2,_ =>
  simp at t27
  simp [mc59_l1,t25,t26,t27]
  exact hQ _ _ hu hN (by simpa [ap2,hv6] using h6)
 | r + 3,h=>omega
theorem call59 {ov:Ov} (m:Nat) (ho:∀ args w,ov 59 args w=none) (ho2:∀ args w,ov 94 args w=none) (v1 v2:Value) (L1 L2:List Nt) (hn1:L1.length + L2.length≤1000) (b:Nat) (w:AW) (hb:w.heap.get b=some (.cells [v1,v2] 22 false)) (hb0:b < w.next) (hl:w.lim≤w.next) (sq:Option Nat) (h1:RowsV ntC w v1 L1) (h2:RowsV ntC w v2 L2) :
  ∃ x w',(run Tryz.prog ov (m + 2)).call 59 [.slice (some ⟨b,0,sq⟩) 2 2] w .none=.ok (.ret x) w' .none∧Up w w'∧RowsV ntC w' x (L1++L2)∧(L1++L2=[]→x=.slice none 0 0):=by
 refine call_wp text59 (by simp) (ho _ _) ?_
 obtain ⟨a1,c1,e1⟩:=h1.len
 obtain ⟨a2,c2,e2⟩:=h2.len
 simp [mc59]
 refine wp_seqX (wp_blockX (loop59a v1 v2 L1.length L2.length a1 a2 c1 c2 e1 e2 (by omega) (by omega) b w hb sq _ _ ?_ ?_ ?_ ?_ ?_ ?_))
 ·simp
 ·simp
 ·simp
 ·simp
 ·simp
 ·intro t t0 t3
  have fin:∀ (v6:Value) (w':AW),Up w w'→CatV w' w.next (L1.length + L2.length) (L1++L2) v6→w.next < w'.next∨L1++L2=[]→notJunk v6=some v6∧RowsV ntC w' v6 (L1++L2)∧(L1++L2=[]→v6=.slice none 0 0):=by
   rintro v6 w' hu (⟨h0,rfl⟩ | ⟨h0,rfl,rest,hg,hr⟩) hlt
   ·have e:L1++L2=[]:=List.eq_nil_of_length_eq_zero (by rw [List.length_append]; omega)
    exact ⟨rfl,.inl ⟨e,none,0,rfl⟩,fun _=>rfl⟩
   ·have hne:L1++L2 ≠ []:=fun e=>by have:=congrArg List.length e; rw [List.length_append,List.length_nil] at this; omega
    refine ⟨rfl,.inr ⟨w.next,0,none,_,rfl,⟨[],rest,62,false,by rw [hg]; simp,rfl⟩,?_⟩,fun e=>absurd e hne⟩
    rcases hlt with h | h
    ·exact h
    ·exact absurd h hne
  by_cases hz:L1.length + L2.length=0
  ·obtain ⟨_,w1,c94,rfl,ew⟩:=call94z (ov:=ov) m ho2 w
   rw [ew] at c94
   rw [hz] at t3
   simp [t0,t3,c94]
   refine wp_seqX (wp_blockX (loop59b v1 v2 L1 L2 (L1.length + L2.length) rfl hn1 b w.next w w hb hb0 (Nat.le_refl _) hl sq h1 h2 (Up.refl w) _ _ ?_ ?_ ?_ ?_ ?_))
   ·exact .inl ⟨hz,by simp⟩
   ·simp
   ·simp
   ·simp
   ·intro t w' hu _ h6
    have e:L1++L2=[]:=List.eq_nil_of_length_eq_zero (by rw [List.length_append]; omega)
    obtain ⟨f1,f2,f3⟩:=fin _ w' hu h6 (.inr e)
    simp [f1,tupV]
    exact ⟨hu,f2,by simpa using f3⟩
  ·obtain ⟨_,w1,c94,rfl,ew⟩:=call94 (ov:=ov) m ho2 (L1.length + L2.length) (by omega) hn1 w
   rw [ew] at c94
   obtain ⟨zn,hzn⟩:∃ z:Int,z=((L1.length + L2.length:Nat):Int):=⟨_,rfl⟩
   rw [← hzn] at t3 c94
   simp [t0,t3,c94]
   have hu1:Up w ⟨w.heap.put w.next (some (.cells (repl (cellsOf zN) (L1.length + L2.length)) 62 false)),w.next + 1,w.lim⟩:=(Up.refl w).add _
   refine wp_seqX (wp_blockX (loop59b v1 v2 L1 L2 (L1.length + L2.length) rfl hn1 b w.next w _ hb hb0 (Nat.le_refl _) hl sq h1 h2 hu1 _ _ ?_ ?_ ?_ ?_ ?_))
   ·refine .inr ⟨by omega,by simp,repl (cellsOf zN) (L1.length + L2.length),by simp,?_⟩
    have e1:repl (cellsOf zN) (L1.length + L2.length)=(List.replicate (L1.length + L2.length) ()).flatMap fun _=>cellsOf zN:=repl_flat (f:=fun _=>cellsOf zN) () _
    rw [e1,flat_length (m:=9) (fun _=>rfl),List.length_replicate]
    simp
   ·simp
   ·simp
   ·simp
   ·intro t w' hu hn h6
    obtain ⟨f1,f2,f3⟩:=fin _ w' hu h6 (.inl (by rw [hn]; exact Nat.lt_succ_self _))
    simp [f1,tupV]
    exact ⟨hu,f2,by simpa using f3⟩
end Go.Proofs.YtnjknghdpobcmaaGreatDoor.walk
namespace Go.Sh
section
variable {α:Type} [DecidableEq α] {c:α→α→Int}
structure Tot (c:α→α→Int):Prop where
 cmp:Cmp c
 eq0:∀ {x y},c x y=0 ↔ x=y
def SS (c:α→α→Int) (l:List α):Prop:=l.Pairwise fun x y=>c x y < 0
theorem Tot.lt_trans (h:Tot c) {x y z:α} (h1:c x y < 0) (h2:c y z < 0):c x z < 0:=by
 have:=h.cmp.trans x y z (by omega) (by omega)
 by_cases e:c x z=0
 ·have:=(this.2 e).1; omega
 ·omega
theorem Tot.irr (h:Tot c) (x:α):¬ c x x < 0:=by have:=(h.eq0 (x:=x) (y:=x)).2 rfl; omega
theorem SS.uniq (h:Tot c):∀ {l l':List α},SS c l→SS c l'→(∀ z,z ∈ l ↔ z ∈ l')→l=l'
 | [],[],_,_,_=>rfl
 | [],y::l',_,_,hm=>by have:=(hm y).2 (by simp); simp at this
 | x::l,[],_,_,hm=>by have:=(hm x).1 (by simp); simp at this
 | x::l,y::l',h1,h2,hm=>by
  unfold SS at h1 h2
  rw [List.pairwise_cons] at h1 h2
  have e:x=y:=by
   apply Classical.byContradiction
   intro hne
   have a:=(hm x).1 (by simp)
   have b:=(hm y).2 (by simp)
   have a':x ∈ l':=by rcases List.mem_cons.1 a with h | h; exact absurd h hne; exact h
   have b':y ∈ l:=by rcases List.mem_cons.1 b with h | h; exact absurd h.symm hne; exact h
   have:=h1.1 y b'
   have:=h2.1 x a'
   have:=h.cmp.neg x y
   omega
  subst e
  rw [SS.uniq h h1.2 h2.2 fun z=>?_]
  constructor
  ·intro hz
   rcases List.mem_cons.1 ((hm z).1 (List.mem_cons_of_mem _ hz)) with e | e
   ·subst e; exact absurd (h1.1 z hz) (h.irr z)
   ·exact e
  ·intro hz
   rcases List.mem_cons.1 ((hm z).2 (List.mem_cons_of_mem _ hz)) with e | e
   ·subst e; exact absurd (h2.1 z hz) (h.irr z)
   ·exact e
def insU (c:α→α→Int) (x:α):List α→List α
 | []=>[x]
 | y::l=>if c y x < 0 then y::insU c x l else if y=x then y::l else x::y::l
def ordU (c:α→α→Int) (L:List α):List α:=L.foldl (fun out x=>insU c x out) []
theorem insU_mem {x z:α}:∀ {l:List α},z ∈ insU c x l ↔ z=x∨z ∈ l
 | []=>by simp [insU]
 | y::l=>by
  unfold insU
  split
  ·rw [List.mem_cons,insU_mem,List.mem_cons]
   constructor
   ·rintro (h | h | h)
    ·exact .inr (.inl h)
    ·exact .inl h
    ·exact .inr (.inr h)
   ·rintro (h | h | h)
    ·exact .inr (.inl h)
    ·exact .inl h
    ·exact .inr (.inr h)
  ·split
   ·rename_i h1 h2
    subst h2
    constructor
    ·exact .inr
    ·rintro (h | h)
     ·subst h; simp
     ·exact h
   ·simp
theorem insU_ss (h:Tot c) {x:α}:∀ {l:List α},SS c l→SS c (insU c x l)
 | [],_=>by simp [insU,SS]
 | y::l,hs=>by
  unfold SS at hs
  rw [List.pairwise_cons] at hs
  unfold insU
  split
  ·rename_i h1
   unfold SS
   rw [List.pairwise_cons]
   refine ⟨fun z hz=>?_,insU_ss h hs.2⟩
   rcases insU_mem.1 hz with e | e
   ·subst e; exact h1
   ·exact hs.1 z e
  ·split
   ·unfold SS; rw [List.pairwise_cons]; exact hs
   ·rename_i h1 h2
    have hn:c x y < 0:=by
     have:=h.cmp.neg x y
     have e:c y x ≠ 0:=fun e=>h2 (h.eq0.1 e)
     omega
    unfold SS
    rw [List.pairwise_cons,List.pairwise_cons]
    refine ⟨fun z hz=>?_,hs⟩
    rcases List.mem_cons.1 hz with e | e
    ·subst e; exact hn
    ·exact h.lt_trans hn (hs.1 z e)
theorem foldU (h:Tot c):∀ (L out:List α),SS c out→SS c (L.foldl (fun out x=>insU c x out) out)∧∀ z,z ∈ L.foldl (fun out x=>insU c x out) out ↔ z ∈ L∨z ∈ out
 | [],out,hs=>⟨hs,fun z=>by simp⟩
 | x::L,out,hs=>by
  obtain ⟨h1,h2⟩:=foldU h L (insU c x out) (insU_ss h hs)
  refine ⟨h1,fun z=>?_⟩
  rw [List.foldl_cons,h2 z,insU_mem,List.mem_cons]
  constructor
  ·rintro (h | h | h)
   ·exact .inl (.inr h)
   ·exact .inl (.inl h)
   ·exact .inr h
  ·rintro ((h | h) | h)
   ·exact .inr (.inl h)
   ·exact .inl h
   ·exact .inr (.inr h)
theorem ordU_ss (h:Tot c) (L:List α):SS c (ordU c L):=(foldU h L [] List.Pairwise.nil).1
theorem ordU_mem (h:Tot c) (L:List α) (z:α):z ∈ ordU c L ↔ z ∈ L:=by
 unfold ordU
 rw [(foldU h L [] List.Pairwise.nil).2 z]
 simp
theorem ddN_ord (h:Tot c) {L:List α} {n:Nat} (hs:Srt (fun x y=>c x y < 0) L 0 n):∀ j,j≤n→j≤L.length→SS c (ddN L j)∧∀ z,z ∈ ddN L j ↔ ∃ p,p < j∧L[p]?=some z
 | 0,_,_=>⟨List.Pairwise.nil,fun z=>by simp [ddN]⟩
 | j + 1,hj,hl=>by
  obtain ⟨h1,h2⟩:=ddN_ord h hs j (by omega) (by omega)
  obtain ⟨x,hx⟩:=at_get (L:=L) (i:=j) (by omega)
  by_cases hsame:0 < j∧L[j - 1]?=some x
  ·rw [ddN_same hx hsame.1 hsame.2]
   refine ⟨h1,fun z=>?_⟩
   rw [h2 z]
   constructor
   ·rintro ⟨p,hp,e⟩; exact ⟨p,by omega,e⟩
   ·rintro ⟨p,hp,e⟩
    by_cases hpj:p=j
    ·subst hpj
     rw [hx] at e
     cases e
     exact ⟨p - 1,by omega,hsame.2⟩
    ·exact ⟨p,by omega,e⟩
  ·have e:ddN L (j + 1)=ddN L j++[x]:=by
    rw [ddN,hx]
    simp only [hsame,if_false]
   rw [e]
   refine ⟨?_,fun z=>?_⟩
   ·unfold SS
    rw [List.pairwise_append]
    refine ⟨h1,by simp,fun z hz y hy=>?_⟩
    rw [List.mem_singleton] at hy
    subst hy
    obtain ⟨p,hp,ez⟩:=(h2 z).1 hz
    have a:=hs p j z y (by omega) hp (by omega) ez hx
    have b:=h.cmp.neg z y
    by_cases e0:c z y=0
    ·have ezy:=h.eq0.1 e0
     subst ezy
     exfalso
     obtain ⟨u,hu⟩:=at_get (L:=L) (i:=j - 1) (by omega)
     have a1:=hs (j - 1) j u z (by omega) (by omega) (by omega) hu hx
     have huz:u ≠ z:=fun k=>hsame ⟨by omega,by rw [hu,k]⟩
     by_cases hpj:p=j - 1
     ·subst hpj
      rw [hu] at ez
      exact huz (Option.some.inj ez)
     ·have a2:=hs p (j - 1) z u (by omega) (by omega) (by omega) ez hu
      have b1:=h.cmp.neg u z
      exact huz (h.eq0.1 (by omega))
    ·simp only at a
     omega
   ·rw [List.mem_append,h2 z,List.mem_singleton]
    constructor
    ·rintro (⟨p,hp,e⟩ | e)
     ·exact ⟨p,by omega,e⟩
     ·subst e; exact ⟨j,by omega,hx⟩
    ·rintro ⟨p,hp,e2⟩
     by_cases hpj:p=j
     ·subst hpj
      rw [hx] at e2
      cases e2
      exact .inr rfl
     ·exact .inl ⟨p,by omega,e2⟩
theorem sorted_ord (h:Tot c) {L Ls:List α} (hm:Mv 0 L.length L Ls) (hs:Srt (fun x y=>c x y < 0) Ls 0 L.length):ddN Ls L.length=ordU c L:=by
 have hlen:=hm.len
 obtain ⟨h1,h2⟩:=ddN_ord h hs L.length (Nat.le_refl _) (by omega)
 refine SS.uniq h h1 (ordU_ss h L) fun z=>?_
 rw [h2 z,ordU_mem h,← hm.perm.mem_iff,List.mem_iff_getElem?]
 constructor
 ·rintro ⟨p,hp,e⟩; exact ⟨p,e⟩
 ·rintro ⟨p,e⟩
  exact ⟨p,by have:=at_lt e; omega,e⟩
end
end Go.Sh
namespace Go.Proofs.YtnjknghdpobcmaaGreatDoor.walk
open Go Go.Sh
set_option maxRecDepth 100000
theorem totN:Tot cmpN:=⟨cmpN_cmp,cmpN_eq0⟩
theorem totB:Tot cmpB:=⟨cmpB_cmp,cmpB_eq0⟩
theorem each58 {ov:Ov} (h60:HasP ov 60 S60.F) (o:OeN ov) (m:Nat) (v:Value) (L:List Nt) (w:AW) (hv:RowsV ntC w v L) (h0:∀ a c,v=.slice a 0 c→a=none→c=0) (hn:L.length≤200) (hl:w.lim≤w.next) :
  ∃ x w',(run Tryz.prog ov (m + 208)).call 58 [v,fv60] w .none=.ok (.ret x) w' .none∧Up w w'∧RowsV ntC w' x (ordU cmpN L):=by
 by_cases hL:L=[]
 ·subst hL
  obtain ⟨a,c,rfl⟩:=hv.len
  cases a with
  | none =>
   have:=h0 none c rfl rfl
   subst this
   obtain ⟨_,w',c1,rfl,e⟩:=call58n (fv:=fv60) o (m + 204) w
   rw [e] at c1
   exact ⟨_,w,c1,Up.refl w,.inl ⟨rfl,none,0,rfl⟩⟩
  | some a =>
   obtain ⟨_,w',c1,B,rfl,hu⟩:=call580 (fv:=fv60) coN o (m + 204) a c w
   exact ⟨_,w',c1,hu,.inl ⟨rfl,_,0,rfl⟩⟩
 ·obtain ⟨x,w',c1,D,B,he⟩:=call58 coN (snN h60) o m v L w hv hL hn hl
  obtain ⟨Ls,hm,hs,hD⟩:=he.srt
  have e:D=ordU cmpN L:=by rw [hD]; exact sorted_ord totN hm hs
  rw [← e]
  obtain ⟨rest,hrow⟩:=he.row
  exact ⟨x,w',c1,he.up,.inr ⟨B,0,some 2,_,he.val,⟨[],rest,62,false,by rw [hrow]; simp,rfl⟩,he.hi⟩⟩
theorem each96 {ov:Ov} (h97:HasP ov 97 S97.F) (o:OeW ov) (m:Nat) (v:Value) (L:List Bs) (w:AW) (hv:RowsV sC w v L) (h0:∀ a c,v=.slice a 0 c→a=none→c=0) (hn:L.length≤200) (hl:w.lim≤w.next) :
  ∃ x w',(run Tryz.prog ov (m + 208)).call 96 [v,fv97] w .none=.ok (.ret x) w' .none∧Up w w'∧RowsV sC w' x (ordU cmpB L):=by
 by_cases hL:L=[]
 ·subst hL
  obtain ⟨a,c,rfl⟩:=hv.len
  cases a with
  | none =>
   have:=h0 none c rfl rfl
   subst this
   obtain ⟨_,w',c1,rfl,e⟩:=call96n (fv:=fv97) o (m + 204) w
   rw [e] at c1
   exact ⟨_,w,c1,Up.refl w,.inl ⟨rfl,none,0,rfl⟩⟩
  | some a =>
   obtain ⟨_,w',c1,B,rfl,hu⟩:=call960 (fv:=fv97) coW o (m + 204) a c w
   exact ⟨_,w',c1,hu,.inl ⟨rfl,_,0,rfl⟩⟩
 ·obtain ⟨x,w',c1,D,B,he⟩:=call96 coW (snW h97) o m v L w hv hL hn hl
  obtain ⟨Ls,hm,hs,hD⟩:=he.srt
  have e:D=ordU cmpB L:=by rw [hD]; exact sorted_ord totB hm hs
  rw [← e]
  obtain ⟨rest,hrow⟩:=he.row
  exact ⟨x,w',c1,he.up,.inr ⟨B,0,some 2,_,he.val,⟨[],rest,9,false,by rw [hrow]; simp,rfl⟩,he.hi⟩⟩
def mgL (A B:List Nt):List Nt:=if notesB A && notesB B then (if 40 < (ordU cmpN (A++B)).length then [] else ordU cmpN (A++B)) else []
def mgE (A B:List Nt):Int:=if notesB A && notesB B then (if 40 < (ordU cmpN (A++B)).length then 3 else 0) else 100
theorem call14 {ov:Ov} (m:Nat) (ho:∀ args w,ov 14 args w=none) (ho59:∀ args w,ov 59 args w=none) (ho94:∀ args w,ov 94 args w=none) (h57:HasP ov 57 S57.F) (h60:HasP ov 60 S60.F) (o:OeN ov)
  (va vb:Value) (A B:List Nt) (w:AW) (hl:w.lim≤w.next) (ha:RowsV ntC w va A) (hb:RowsV ntC w vb B) :
  ∃ x w',(run Tryz.prog ov (m + 209)).call 14 [va,vb] w .none=.ok (.ret x) w' .none∧Up w w'∧∃ lv,x=.tuple ⟨[lv,.int .i64 (mgE A B)]⟩∧RowsV ntC w' lv (mgL A B):=by
 refine call_wp text14 (by simp) (ho _ _) ?_
 have c1:=S57.call (P:=Tryz.prog) (m:=m + 207) h57 (args:=[va]) (w:=w) ⟨va,A,rfl,ha,rfl⟩
 have c2:=S57.call (P:=Tryz.prog) (m:=m + 207) h57 (args:=[vb]) (w:=w) ⟨vb,B,rfl,hb,rfl⟩
 obtain ⟨a1,k1,e1⟩:=ha.len
 obtain ⟨a2,k2,e2⟩:=hb.len
 cases hA:notesB A with
 | false =>
  rw [hA] at c1
  subst e1
  simp [mc14,c1,tupV,notJunk,mgE,mgL,hA]
  exact ⟨Up.refl w,.inl ⟨rfl,none,0,rfl⟩⟩
 | true =>
  rw [hA] at c1
  cases hB:notesB B with
  | false =>
   rw [hB] at c2
   subst e1 e2
   simp [mc14,c1,c2,tupV,notJunk,mgE,mgL,hA,hB]
   exact ⟨Up.refl w,.inl ⟨rfl,none,0,rfl⟩⟩
  | true =>
   rw [hB] at c2
   have lA:A.length≤40:=by
    unfold notesB at hA
    simp only [Bool.and_eq_true,decide_eq_true_eq] at hA
    exact hA.1
   have lB:B.length≤40:=by
    unfold notesB at hB
    simp only [Bool.and_eq_true,decide_eq_true_eq] at hB
    exact hB.1
   have hu1:Up w ⟨w.heap.put w.next (some (.cells [va,vb] 22 false)),w.next + 1,w.lim⟩:=(Up.refl w).add _
   obtain ⟨x1,w2,c59,hu2,hr2,hz2⟩:=call59 (ov:=ov) (m + 206) ho59 ho94 va vb A B (by omega) w.next ⟨w.heap.put w.next (some (.cells [va,vb] 22 false)),w.next + 1,w.lim⟩ (by simp) (Nat.lt_succ_self _) (by show w.lim≤w.next + 1; omega) (some 2) (ha.up hu1) (hb.up hu1)
   have m2:=hu2.lim
   have n2:=hu2.next
   simp only at m2 n2
   obtain ⟨x2,w3,c58,hu3,hr3⟩:=each58 h60 o m x1 (A++B) w2 hr2 (fun a c e ea=>by
    subst ea
    by_cases hne:A++B=[]
    ·have:=hz2 hne
     rw [e] at this
     injection this
    ·obtain ⟨b,off,sq,c',e',_⟩:=hr2.at_ 0 (List.length_pos_iff.2 hne)
     rw [e] at e'
     injection e' with q1
     cases q1) (by rw [List.length_append]; omega) (by omega)
   obtain ⟨a3,k3,e3⟩:=hr3.len
   have hu:Up w w3:=(hu1.trans hu2).trans hu3
   obtain ⟨z,hz⟩:∃ z:Int,z=((ordU cmpN (A++B)).length:Int):=⟨_,rfl⟩
   subst e1 e2 e3
   unfold fv60 at c58
   by_cases hgt:40 < (ordU cmpN (A++B)).length
   ·have hgt':40 < z:=by omega
    simp [mc14,c1,c2,c59,c58,← hz,hgt',tupV,notJunk,mgE,mgL,hA,hB,hgt]
    exact ⟨hu,.inl ⟨rfl,none,0,rfl⟩⟩
   ·have hgt':¬ 40 < z:=by omega
    simp [mc14,c1,c2,c59,c58,← hz,hgt',tupV,notJunk,mgE,mgL,hA,hB,hgt]
    exact ⟨hu,hr3⟩
end Go.Proofs.YtnjknghdpobcmaaGreatDoor.walk
namespace Go.Sh
open Go
theorem AccQ.pushX {α:Type} {P:Program} {st e:TypeId} {sz:Nat} {f:α→List Value} (h0:isList P st=true) (h1:elemA P st=some e) (h2:szOf P e=some sz) (h3:smallT P e=true) (hf:∀ a,(f a).length=sz) (hs:∀ a,singles (f a)=true) (hz:0 < sz)
  {n0:Nat} {w:AW} {v x:Value} {acc:List α} {B:Nat} (h:AccQ f e n0 w v acc B) (hl:w.lim≤n0) (hn:n0 < w.next) (hlen:acc.length≤90000) (y:α) (hx:lenA x=some 1) (hx2:srcCells w sz x=some (f y)) :
  ∃ v' w',append1 P w [st,st] [v,x]=.val v' w'∧AccQ f e n0 w' v' (acc++[y]) w.next∧(∀ x,x < w.next→(acc ≠ []→x ≠ B)→w'.heap.get x=w.heap.get x)∧w'.next=w.next + 1∧w'.lim=w.lim:=by
 rcases h with ⟨rfl,rfl⟩ | ⟨rfl,hB,k1,k2,k3⟩
 ·refine ⟨_,_,append_nil h0 h1 h2 h3 (m:=1) hx hx2 (by simp [hf]) (by decide) (by decide),.inr ⟨rfl,?_,?_,?_,by simp⟩,fun x hx _=>?_,rfl,rfl⟩
  ·simp
  ·exact hn
  ·exact Nat.lt_succ_self _
  ·show (w.heap.put w.next _).get x=_
   rw [get_put,if_neg (by omega)]
 ·refine ⟨_,_,append_full h0 h1 h2 h3 (n:=acc.length) (m:=1) (c:=acc.flatMap f) hx hx2 (by simp [hf]) (hs y) (by decide) (by omega) hB (flat_length hf acc) (by omega),.inr ⟨?_,?_,?_,?_,by simp⟩,fun x hx hne=>?_,rfl,rfl⟩
  ·simp
  ·show ((w.heap.put B none).put w.next _).get w.next=_
   rw [get_put,if_pos rfl]; simp
  ·exact hn
  ·exact Nat.lt_succ_self _
  ·have:=hne k3
   show ((w.heap.put B none).put w.next _).get x=_
   rw [get_put,if_neg (by omega),get_put,if_neg (by omega)]
end Go.Sh
namespace Go.Proofs.YtnjknghdpobcmaaGreatDoor.walk
open Go Go.Sh
set_option maxRecDepth 100000
def likeB (x y:Nt):Bool:=decide (x.by_=y.by_) && decide (x.seq=y.seq)
def liN (L:List Nt):Nat→List Bs
 | 0=>[]
 | 1=>[]
 | r + 2=>match L[r]?,L[r + 1]? with
  | some y,some x=>if likeB y x then liN L (r + 1)++[x.by_] else liN L (r + 1)
  | _,_=>liN L (r + 1)
theorem liN_len (L:List Nt):∀ r,(liN L r).length≤r
 | 0=>Nat.le_refl _
 | 1=>Nat.le_succ _
 | r + 2=>by
  have:=liN_len L (r + 1)
  unfold liN
  split
  ·split
   ·simp; omega
   ·omega
  ·omega
set_option maxHeartbeats 1000000 in
theorem loop63 {r0:Rec} (v:Value) (L:List Nt) (w0 w:AW) (hl:w0.lim≤w0.next) (hv:RowsV ntC w0 v L) (hL:L.length≤200) (hu:Up w0 w) (Q:Ex→Tm→AW→Prop) (t:Tm)
  (t0:tget t 0=v) (t3:tget t 3=.slice none 0 0) (t6:tget t 6=v) (t7:tget t 7=.int .i64 (L.length:Nat)) (t8:tget t 8=.int .i64 0)
  (hQ:∀ t w' B,Up w0 w'→AccQ sC 9 w0.next w' (tget t 3) (liN L L.length) B→Q (.exit 0) t w'):wp (exM Tryz.prog r0 (.loop mc63_l0) t w) Q:=by
 refine wp_rounds (fun r t w=>r≤L.length∧Up w0 w∧(∃ B,AccQ sC 9 w0.next w (tget t 3) (liN L r) B)∧tget t 0=v∧tget t 6=v∧tget t 7=.int .i64 (L.length:Nat)∧tget t 8=.int .i64 (r:Nat)) 300 (by decide) ⟨by omega,hu,⟨0,by rw [t3]; exact AccQ.nil⟩,t0,t6,t7,t8⟩ ?_
 clear t0 t3 t6 t7 t8 hu
 rintro r t w ⟨hr,hu,⟨B,hacc⟩,t0,t6,t7,t8⟩
 have n1:=hu.next
 have m1:=hu.lim
 obtain ⟨zr,hzr⟩:∃ z:Int,z=(r:Int):=⟨_,rfl⟩
 obtain ⟨zl,hzl⟩:∃ z:Int,z=(L.length:Int):=⟨_,rfl⟩
 rw [← hzr] at t8
 rw [← hzl] at t7
 obtain ⟨v3,hv3⟩:∃ v,v=tget t 3:=⟨_,rfl⟩
 rw [← hv3] at hacc
 have nj:=hacc.ok
 by_cases hlt:r < L.length
 ·have hlt':zr < zl:=by omega
  obtain ⟨x,hx⟩:=at_get (L:=L) (i:=r) hlt
  obtain ⟨b,off,sq,cc,rfl,hra⟩:=(hv.up hu).at_ r hlt
  have hb:=hra.2
  have hbn:b ≠ w.next:=by omega
  have hld:=hra.rd (m:=9) ntC_length hx
  have hia:=fun w=>ia22 w ⟨b,off,sq⟩ L.length cc .i64 r hlt
  rw [← hzr] at hia
  have hw:IntKind.wrap .i64 (zr + 1)=((r + 1:Nat):Int):=by rw [w6i (by omega) (by omega)]; omega
  have sN:∀ w5:AW,w5.lim≤w.next→∀ z:Nt,wrO w5 w.next 0 (ntC x) (some (.cells (ntC z) 62 false))=some ⟨w5.heap.put w.next (some (.cells (ntC x) 62 false)),w5.next,w5.lim⟩:=fun w5 h z=>by rw [wrO_cells (ntC_singles x) h (by simp)]; simp [ntC]
  have lw:w.lim≤w.next:=by omega
  have sN0:=fun w5 h=>sN w5 h ⟨0,[],0,[],[],0,0,0,0⟩
  have hUp:Up w0 ⟨(w.heap.put w.next (some (.cells (ntC ⟨0,[],0,[],[],0,0,0,0⟩) 62 false))).put w.next (some (.cells (ntC x) 62 false)),w.next + 1,w.lim⟩:=((hu.add _).put n1 (Nat.le_refl _))
  have hkeep:AccQ sC 9 w0.next ⟨(w.heap.put w.next (some (.cells (ntC ⟨0,[],0,[],[],0,0,0,0⟩) 62 false))).put w.next (some (.cells (ntC x) 62 false)),w.next + 1,w.lim⟩ v3 (liN L r) B:=hacc.keep (fun _ _ h=>by show ((w.heap.put w.next _).put w.next _).get B=_; rw [get_put,if_neg (by omega),get_put,if_neg (by omega)]) (Nat.le_succ _)
  simp only [ntC] at sN0 hld hUp hkeep
  match r,hx,hr,hlt,hacc,hld,hia,hw,hzr,hkeep,hlt' with
  | 0,hx,hr,hlt,hacc,hld,hia,hw,hzr,hkeep,hlt' =>
   have hz0:¬ 0 < zr:=by omega
   simp at hld
   simp [mc63_l0,t0,t6,t7,t8,hlt',hia,hld,sN0,lw,hz0,hw,← hv3,nj, -wrO_cells]
   exact ⟨by omega,hUp,⟨B,hkeep⟩,hzl⟩
  | p + 1,hx,hr,hlt,hacc,hld,hia,hw,hzr,hkeep,hlt' =>
   have hzp:0 < zr:=by omega
   obtain ⟨y,hy⟩:=at_get (L:=L) (i:=p) (by omega)
   obtain ⟨zp,hzp2⟩:∃ z:Int,z=(p:Int):=⟨_,rfl⟩
   have w1:IntKind.wrap .i64 (zr - 1)=zp:=by rw [w6i (by omega) (by omega)]; omega
   have hip:=fun w=>ia22 w ⟨b,off,sq⟩ L.length cc .i64 p (by omega)
   rw [← hzp2] at hip
   have r1:=hra.rd1 (m:=9) (j:=1) (x:=.string ⟨⟨y.by_⟩⟩) ntC_length hy rfl
   have r2:=hra.rd1 (m:=9) (j:=2) (x:=.int .i64 y.seq) ntC_length hy rfl
   by_cases h1:y.by_=x.by_
   ·by_cases h2:y.seq=x.seq
    ·have e:liN L (p + 1 + 1)=liN L (p + 1)++[x.by_]:=by
      rw [liN,hy,hx]; simp [likeB,h1,h2]
     obtain ⟨wA,hwA⟩:∃ wA:AW,wA=⟨(w.heap.put w.next (some (.cells [.int .i64 0,.string ⟨⟨[]⟩⟩,.int .i64 0,.string ⟨⟨[]⟩⟩,.string ⟨⟨[]⟩⟩,.int .i64 0,.int .i64 0,.int .i64 0,.int .i64 0] 62 false))).put w.next (some (.cells [.int .i64 x.kind,.string ⟨⟨x.by_⟩⟩,.int .i64 x.seq,.string ⟨⟨x.to_⟩⟩,.string ⟨⟨x.claim⟩⟩,.int .i64 x.from_,.int .i64 x.until_,.int .i64 x.depth,.int .i64 x.of_] 62 false)),w.next + 1,w.lim⟩:=⟨_,rfl⟩
     rw [← hwA] at hUp hkeep
     have nA:wA.next=w.next + 1:=by rw [hwA]
     have lA:wA.lim=w.lim:=by rw [hwA]
     obtain ⟨wB,hwB⟩:∃ wB:AW,wB=⟨wA.heap.put (w.next + 1) (some (.cells [.string ⟨⟨x.by_⟩⟩] 9 false)),w.next + 1 + 1,w.lim⟩:=⟨_,rfl⟩
     have nB:wB.next=w.next + 1 + 1:=by rw [hwB]
     have lB:wB.lim=w.lim:=by rw [hwB]
     have gB:wB.heap.get (w.next + 1)=some (.cells [.string ⟨⟨x.by_⟩⟩] 9 false):=by rw [hwB]; simp
     have oB:∀ b,b < w.next + 1→wB.heap.get b=wA.heap.get b:=fun b hb=>by
      rw [hwB]
      show (wA.heap.put (w.next + 1) _).get b=_
      rw [get_put,if_neg (by omega)]
     have hk2:AccQ sC 9 w0.next wB v3 (liN L (p + 1)) B:=hkeep.keep (fun _ _ h=>oB B (by omega)) (by omega)
     obtain ⟨v',w',hap,hacc',hkp,hn',hl'⟩:=AccQ.pushX (P:=Tryz.prog) (st:=28) (e:=9) (sz:=1) (by kernel_rfl) (by kernel_rfl) (by kernel_rfl) (by kernel_rfl) (f:=sC) (fun _=>rfl) (fun _=>by simp [sC]) (by decide) hk2 (by omega) (by omega) (by have:=liN_len L (p + 1); omega) x.by_ (x:=.slice (some ⟨w.next + 1,0,some 2⟩) 1 1) rfl
      (by show (bif Nat.beq (1 * 1) 0 then some [] else rd wB (w.next + 1) 0 (1 * 1))=_; rw [rd_eq,gB]; rfl)
     have hUp':Up w0 w':=⟨fun z hz=>by rw [hkp z (by omega) (fun hne=>by have:=(hk2.lt hne).1; omega),oB z (by omega)]; exact hUp.at hz,by omega,by omega⟩
     rw [hwB,hwA] at hap
     simp at hap
     simp [mc63_l0,t0,t6,t7,t8,hlt',hia,hip,hld,sN0,lw,hzp,hw,w1,← hv3,nj,r1,r2,hbn,eq_str,h1,h2,hap, -wrO_cells]
     exact ⟨by omega,by omega,hUp',⟨_,by rw [e]; exact hacc'⟩,hzl⟩
    ·have e:liN L (p + 1 + 1)=liN L (p + 1):=by
      rw [liN,hy,hx]; simp [likeB,h1,h2]
     simp [mc63_l0,t0,t6,t7,t8,hlt',hia,hip,hld,sN0,lw,hzp,hw,w1,← hv3,nj,r1,r2,hbn,eq_str,h1,h2, -wrO_cells]
     exact ⟨by omega,by omega,hUp,⟨B,by rw [e]; exact hkeep⟩,hzl⟩
   ·have e:liN L (p + 1 + 1)=liN L (p + 1):=by
     rw [liN,hy,hx]; simp [likeB,h1]
    simp [mc63_l0,t0,t6,t7,t8,hlt',hia,hip,hld,sN0,lw,hzp,hw,w1,← hv3,nj,r1,r2,hbn,eq_str,h1, -wrO_cells]
    exact ⟨by omega,by omega,hUp,⟨B,by rw [e]; exact hkeep⟩,hzl⟩
 ·have hge:¬ zr < zl:=by omega
  have e:r=L.length:=by omega
  rw [e] at hacc
  simp [mc63_l0,t7,t8,hge]
  exact hQ _ _ B hu (by simpa [hv3] using hacc)
theorem call63 {ov:Ov} (m:Nat) (ho:∀ args w,ov 63 args w=none) (h97:HasP ov 97 S97.F) (o:OeW ov) (v:Value) (L:List Nt) (w:AW) (hl:w.lim≤w.next) (hv:RowsV ntC w v L) (hL:L.length≤200) :
  ∃ x w',(run Tryz.prog ov (m + 209)).call 63 [v] w .none=.ok (.ret x) w' .none∧Up w w'∧RowsV sC w' x (ordU cmpB (liN L L.length)):=by
 refine call_wp text63 (by simp) (ho _ _) ?_
 obtain ⟨a1,k1,e1⟩:=hv.len
 have hlen:∀ w':AW,lenB Tryz.prog w' 22 v=.val (.int .i64 (L.length:Nat)) w':=fun w'=>by rw [e1]; simp
 simp [mc63,hlen]
 refine wp_seqX (wp_blockX (loop63 v L w w hl hv hL (Up.refl w) _ _ ?_ ?_ ?_ ?_ ?_ ?_))
 ·simp
 ·simp
 ·simp
 ·simp
 ·simp
 ·intro t w' B hu hacc
  have n1:=hu.next
  have m1:=hu.lim
  have nj:=hacc.ok
  have hlen:=liN_len L L.length
  obtain ⟨x,w2,c1,hu2,hr2⟩:=each96 h97 o m (tget t 3) (liN L L.length) w' hacc.rows (fun a c e ea=>by
   subst ea
   rcases hacc with ⟨_,h⟩ | ⟨h,_⟩
   ·rw [e] at h; injection h
   ·rw [e] at h; injection h with h; cases h) (by omega) (by omega)
  obtain ⟨a2,k2,e2⟩:=hr2.len
  unfold fv97 at c1
  subst e2
  simp [nj,c1,tupV,notJunk]
  exact ⟨hu.trans hu2,hr2⟩
def lrL (L:List Nt):List Bs:=if notesB L then ordU cmpB (liN (ordU cmpN L) (ordU cmpN L).length) else []
theorem ordU_len {α:Type} [DecidableEq α] (c:α→α→Int):∀ (L out:List α),(L.foldl (fun out x=>insU c x out) out).length≤out.length + L.length
 | [],out=>by simp
 | x::L,out=>by
  have h1:∀ l:List α,(insU c x l).length≤l.length + 1:=by
   intro l
   induction l with
   | nil=>simp [insU]
   | cons y l ih=>unfold insU; split <;> (try split) <;> simp <;> omega
  have:=ordU_len c L (insU c x out)
  have:=h1 out
  rw [List.foldl_cons,List.length_cons]
  omega
theorem call19 {ov:Ov} (m:Nat) (ho:∀ args w,ov 19 args w=none) (ho63:∀ args w,ov 63 args w=none) (h17:HasP ov 17 S17.F) (h60:HasP ov 60 S60.F) (h97:HasP ov 97 S97.F) (oN:OeN ov) (oW:OeW ov)
  (v:Value) (L:List Nt) (w:AW) (hl:w.lim≤w.next) (hv:RowsV ntC w v L) (h0:∀ a c,v=.slice a 0 c→a=none→c=0) :
  ∃ x w',(run Tryz.prog ov (m + 210)).call 19 [v] w .none=.ok (.ret x) w' .none∧Up w w'∧∃ lv,x=.tuple ⟨[lv,.int .i64 (ckE L)]⟩∧RowsV sC w' lv (lrL L):=by
 refine call_wp text19 (by simp) (ho _ _) ?_
 have c1:=S17.call (P:=Tryz.prog) (m:=m + 208) h17 (args:=[v]) (w:=w) ⟨v,L,rfl,hv,rfl⟩
 by_cases hc:notesB L=true
 ·have e0:ckE L=0:=by unfold ckE; rw [if_pos hc]
  have lL:L.length≤40:=by
   have hc:=hc
   unfold notesB at hc
   simp only [Bool.and_eq_true,decide_eq_true_eq] at hc
   exact hc.1
  obtain ⟨x1,w1,c58,hu1,hr1⟩:=each58 h60 oN (m + 1) v L w hv h0 (by omega) hl
  have c58:(run Tryz.prog ov (m + 209)).call 58 [v,fv60] w .none=.ok (.ret x1) w1 .none:=c58
  have n1:=hu1.next
  have m1:=hu1.lim
  have ol:(ordU cmpN L).length≤L.length:=by have:=ordU_len cmpN L []; simp at this; exact this
  obtain ⟨x2,w2,c63,hu2,hr2⟩:=call63 (ov:=ov) m ho63 h97 oW x1 (ordU cmpN L) w1 (by omega) hr1 (by omega)
  obtain ⟨a1,k1,e1⟩:=hr1.len
  obtain ⟨a2,k2,e2⟩:=hr2.len
  unfold fv60 at c58
  rw [e0] at c1
  subst e1 e2
  simp [mc19,c1,c58,c63,tupV,notJunk,e0,lrL,hc]
  exact ⟨hu1.trans hu2,hr2⟩
 ·have e0:ckE L=100:=by unfold ckE; rw [if_neg hc]
  rw [e0] at c1
  simp [mc19,c1,tupV,notJunk,e0,lrL,hc]
  exact ⟨Up.refl w,.inl ⟨rfl,none,0,rfl⟩⟩
end Go.Proofs.YtnjknghdpobcmaaGreatDoor.walk
