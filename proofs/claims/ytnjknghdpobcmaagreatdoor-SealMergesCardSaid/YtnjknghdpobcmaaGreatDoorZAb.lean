/- Part of a proof: see the text with the theorem. -/
import Derived.Test.YtnjknghdpobcmaaGreatDoorZPa
set_option linter.all false
namespace Go.Proofs.YtnjknghdpobcmaaGreatDoor.walk
open Go Go.Sh
set_option maxRecDepth 100000
theorem all_take {α:Type} {p:α→Bool} {l:List α} {i:Nat} {b:α} (hb:l[i]?=some b):(l.take (i + 1)).all p=((l.take i).all p && p b):=by
 rw [List.take_add_one,hb]; simp
theorem all_no {α:Type} {p:α→Bool} {l:List α} {i:Nat} {b:α} (hb:l[i]?=some b) (h:p b=false):l.all p=false:=by
 rw [Bool.eq_false_iff]
 intro ha
 have:=List.all_eq_true.1 ha b (List.mem_of_getElem? hb)
 rw [h] at this; cases this
theorem rule99 {ov:Ov} (h:HasP ov 99 S99.F) (s:Bs) (m:Nat) (w:AW):(run Tryz.prog ov (m + 1)).call 99 [.string ⟨⟨s⟩⟩] w .none=.ok (.ret (.bool (wordB s))) w .none:=S99.call h ⟨⟨⟨s⟩⟩,rfl,rfl⟩
set_option maxHeartbeats 1000000 in
theorem run67 {ov:Ov} (ho:∀ args w,ov 67 args w=none) (h99:HasP ov 99 S99.F) (u:Value) (L:List Bs) (w:AW) (hv:RowsV stC w u L) (hn:L.length≤100):∃ v w',(run Tryz.prog ov 2).call 67 [u] w .none=.ok (.ret v) w' .none∧v=.bool (L.all wordB):=by
 refine call_wp text67 (by simp) (ho _ _) ?_
 have hl:=fun w'=>len28V (w':=w') hv
 simp [mc67,hl]
 refine wp_seqX (wp_blockX (wp_rounds (fun i t w'=>w'=w∧tget t 5=u∧tget t 6=.int .i64 (L.length:Nat)∧tget t 7=.int .i64 (i:Nat)∧i≤L.length∧(L.take i).all wordB=true) 200 (by decide) ⟨rfl,by simp,by simp,by simp,by omega,by simp⟩ ?_))
 rintro i t w' ⟨rfl,t5,t6,t7,hi,hA⟩
 obtain ⟨zi,hzi⟩:∃ z:Int,z=(i:Int):=⟨_,rfl⟩
 obtain ⟨zl,hzl⟩:∃ z:Int,z=(L.length:Int):=⟨_,rfl⟩
 rw [← hzi] at t7
 rw [← hzl] at t6
 by_cases hlt:i < L.length
 ·have hlt':zi < zl:=by omega
  obtain ⟨b,hb⟩:∃ b,L[i]?=some b:=⟨_,List.getElem?_eq_getElem hlt⟩
  obtain ⟨bl,off,sq,cc,rfl,hra⟩:=hv.at_ i hlt
  have hld:rd1O (w'.heap.get bl) (off + i)=some (.string ⟨⟨b⟩⟩):=by
   have:=hra.rd1 (m:=1) (j:=0) stC_length hb (x:=.string ⟨⟨b⟩⟩) rfl
   simpa using this
  have hia:=fun w=>ia28 w ⟨bl,off,sq⟩ L.length cc .i64 i hlt
  rw [← hzi] at hia
  have r99:=fun w=>rule99 h99 b 0 w
  have hw:IntKind.wrap .i64 (zi + 1)=((i + 1:Nat):Int):=by rw [w6i (by omega) (by omega)]; omega
  cases hc:wordB b with
  | true =>
   have h2:(L.take (i + 1)).all wordB=true:=by rw [all_take hb,hA,hc]; rfl
   simp [mc67_l0,t5,t6,t7,hlt',hia,hld,r99,hc,hw]
   exact ⟨by omega,by omega,hlt,by simpa using h2⟩
  | false =>
   have h2:=all_no hb hc
   simp [mc67_l0,t5,t6,t7,hlt',hia,hld,r99,hc,hw,tupV]
   simpa using h2
 ·have hge:¬ zi < zl:=by omega
  have e:i=L.length:=by omega
  rw [e,List.take_length] at hA
  simp [mc67_l0,t5,t6,t7,hge,tupV]
  simpa using hA
theorem rule67 {ov:Ov} (h:HasP ov 67 S67.F) {u:Value} {L:List Bs} {w:AW} (hv:RowsV stC w u L) (hn:L.length≤100) (m:Nat):(run Tryz.prog ov (m + 1)).call 67 [u] w .none=.ok (.ret (.bool (L.all wordB))) w .none:=S67.call h ⟨u,L,rfl,hv,hn,rfl⟩
def S89:PSpec where
 R args _ v:=∃ n:Nt,args=[.agg ⟨ntC n⟩]∧v=.bool (noteB n)
 uniq:=by
  rintro _ _ _ _ ⟨n,rfl,rfl⟩ ⟨n',h,rfl⟩
  simp only [List.cons.injEq,Value.agg.injEq,Array.mk.injEq,and_true] at h
  rw [ntC_inj h]
 shut h:=h
theorem bd62_back (w:AW) (a b:Int) (s:Bs) (c d:Int):buildA Tryz.prog w 62 [(0,.int .i64 a),(1,.string ⟨⟨s⟩⟩),(2,.int .i64 b),(5,.int .i64 c),(8,.int .i64 d)]=.val (.agg ⟨ntC ⟨a,s,b,[],[],c,0,0,d⟩⟩) w:=bd62_0_1_2_5_8 w a ⟨⟨s⟩⟩ b c d
set_option maxHeartbeats 4000000 in
theorem run89 {ov:Ov} (ho:∀ args w,ov 89 args w=none) (h99:HasP ov 99 S99.F) (h122:HasP ov 122 S122.F) (h68:HasP ov 68 S68.F) (h67:HasP ov 67 S67.F) (h100:HasP ov 100 S100.F) (n:Nt) (w:AW) (hl:w.lim=w.next):∃ v w',(run Tryz.prog ov 2).call 89 [.agg ⟨ntC n⟩] w .none=.ok (.ret v) w' .none∧v=.bool (noteB n):=by
 refine call_wp text89 (by simp) (ho _ _) ?_
 have eN:∀ x y:Nt,eqFlat true [0,2,0,2,2,0,0,0,0] (.agg ⟨ntC x⟩) (.agg ⟨ntC y⟩)=some (decide (x=y)):=eq_nt
 obtain ⟨k,by_,seq,to_,claim,from_,until_,depth,of_⟩:=n
 have r99:=fun s w=>rule99 h99 s 0 w
 have r122:=fun n w=>S122.call1 (P:=Tryz.prog) h122 (w:=w) ⟨n,rfl,rfl⟩
 have r68:=fun n w=>S68.call1 (P:=Tryz.prog) h68 (w:=w) ⟨n,rfl,rfl⟩
 have r100:=fun n a b w=>rule100 h100 n a b 0 w
 cases c1:wordB by_ with
 | false=>simp [mc89,ntC,r99,c1,noteB,tupV]
 | true =>
  cases c2:inI 1 seq 1000 with
  | false=>simp [mc89,ntC,r99,r122,c1,c2,noteB,tupV]
  | true =>
   cases c3:inI 0 from_ 30000 with
   | false=>simp [mc89,ntC,r99,r122,r68,c1,c2,c3,noteB,tupV]
   | true =>
    by_cases k1:k=1
    ·subst k1
     have r67:∀ (H:T AObj) (nx:Nat),H.get nx=some (.cells [.string ⟨⟨to_⟩⟩,.string ⟨⟨claim⟩⟩] 9 false)→(run Tryz.prog ov 1).call 67 [.slice (some ⟨nx,0,some 2⟩) 2 2] ⟨H,nx + 1,w.lim⟩ .none=.ok (.ret (.bool (wordB to_ && wordB claim))) ⟨H,nx + 1,w.lim⟩ .none:=fun H nx h=>by
      have:=rule67 (w:=⟨H,nx + 1,w.lim⟩) (u:=.slice (some ⟨nx,0,some 2⟩) 2 2) (L:=[to_,claim]) h67 (.inr ⟨nx,0,some 2,2,rfl,⟨[],[],9,false,by show H.get nx=_; rw [h]; rfl,rfl⟩,Nat.lt_succ_self _⟩) (by simp) 0
      simpa using this
     cases c4:wordB to_ with
     | false=>simp [mc89,ntC,r99,r122,r68,r67,c1,c2,c3,c4,noteB,tupV]
     | true =>
      cases c5:wordB claim with
      | false=>simp [mc89,ntC,r99,r122,r68,r67,c1,c2,c3,c4,c5,noteB,tupV]
      | true =>
       by_cases c6:to_=by_
       ·simp [mc89,ntC,r99,r122,r68,r67,c1,c2,c3,c4,c5,c6,eq_str,noteB,tupV]
       ·cases c7:inI from_ until_ 30000 with
        | false=>simp [mc89,ntC,r99,r122,r68,r67,r100,c1,c2,c3,c4,c5,c6,c7,eq_str,noteB,tupV]
        | true =>
         cases c8:inI 0 depth 5 with
         | false=>simp [mc89,ntC,r99,r122,r68,r67,r100,c1,c2,c3,c4,c5,c6,c7,c8,eq_str,noteB,tupV]
         | true=>simp [mc89,ntC,r99,r122,r68,r67,r100,c1,c2,c3,c4,c5,c6,c7,c8,eq_str,noteB,tupV]
    ·by_cases k2:k=2
     ·subst k2
      have eN:=eq_nt ⟨2,by_,seq,to_,claim,from_,until_,depth,of_⟩ ⟨2,by_,seq,[],[],from_,0,0,of_⟩
      have e2:decide ((⟨2,by_,seq,to_,claim,from_,until_,depth,of_⟩:Nt)=⟨2,by_,seq,[],[],from_,0,0,of_⟩)=(decide (to_=[]) && (decide (claim=[]) && (decide (until_=0) && decide (depth=0)))):=by
       simp [Nt.mk.injEq,Bool.decide_and]
      rw [e2] at eN
      simp only [ntC] at eN
      cases c4:inI 1 of_ 1000 with
      | false=>simp [mc89,ntC,r99,r122,r68,c1,c2,c3,c4,noteB,tupV]
      | true=>simp [mc89,ntC,r99,r122,r68,c1,c2,c3,c4,bd62_back,eN,noteB,tupV]
     ·simp [mc89,ntC,r99,r122,r68,c1,c2,c3,k1,k2,noteB,tupV]
theorem rule89 {ov:Ov} (h:HasP ov 89 S89.F) (n:Nt) (m:Nat) (w:AW):(run Tryz.prog ov (m + 1)).call 89 [.agg ⟨ntC n⟩] w .none=.ok (.ret (.bool (noteB n))) w .none:=S89.call h ⟨n,rfl,rfl⟩
set_option maxHeartbeats 1000000 in
theorem run57 {ov:Ov} (ho:∀ args w,ov 57 args w=none) (h89:HasP ov 89 S89.F) (u:Value) (L:List Nt) (w:AW) (hv:RowsV ntC w u L) (hlw:w.lim≤w.next):∃ v w',(run Tryz.prog ov 2).call 57 [u] w .none=.ok (.ret v) w' .none∧v=.bool (notesB L):=by
 refine call_wp text57 (by simp) (ho _ _) ?_
 have hl:=fun w'=>len22V (w':=w') hv
 by_cases h40:L.length≤40
 ·have h40':¬ (40:Int) < (L.length:Int):=by omega
  simp [mc57,hl,h40']
  refine wp_seqX (wp_blockX (wp_rounds (fun i t w'=>Up w w'∧tget t 8=u∧tget t 9=.int .i64 (L.length:Nat)∧tget t 10=.int .i64 (i:Nat)∧i≤L.length∧(L.take i).all noteB=true) 100 (by decide) ⟨Up.refl _,by simp,by simp,by simp,by omega,by simp⟩ ?_))
  rintro i t w' ⟨hU,t8,t9,t10,hi,hA⟩
  have hn':=hU.next
  have hm':=hU.lim
  obtain ⟨zi,hzi⟩:∃ z:Int,z=(i:Int):=⟨_,rfl⟩
  obtain ⟨zl,hzl⟩:∃ z:Int,z=(L.length:Int):=⟨_,rfl⟩
  rw [← hzi] at t10
  rw [← hzl] at t9
  by_cases hlt:i < L.length
  ·have hlt':zi < zl:=by omega
   obtain ⟨b,hb⟩:∃ b,L[i]?=some b:=⟨_,List.getElem?_eq_getElem hlt⟩
   obtain ⟨bl,off,sq,cc,rfl,hra⟩:=(hv.up hU).at_ i hlt
   have hld:=hra.rd (m:=9) ntC_length hb
   have hia:=fun w=>ia22 w ⟨bl,off,sq⟩ L.length cc .i64 i hlt
   rw [← hzi] at hia
   have r89:=fun w=>rule89 h89 b 0 w
   have hw:IntKind.wrap .i64 (zi + 1)=((i + 1:Nat):Int):=by rw [w6i (by omega) (by omega)]; omega
   have sN:∀ w5:AW,w5.lim≤w'.next→∀ z:Nt,wrO w5 w'.next 0 (ntC b) (some (.cells (ntC z) 62 false))=some ⟨w5.heap.put w'.next (some (.cells (ntC b) 62 false)),w5.next,w5.lim⟩:=fun w5 h z=>by rw [wrO_cells (ntC_singles b) h (by simp)]; simp [ntC]
   have lw:w'.lim≤w'.next:=by omega
   have sN0:=fun w5 h=>sN w5 h ⟨0,[],0,[],[],0,0,0,0⟩
   have hll:(cellsOf (.agg ⟨ntC b⟩)).length=9:=by simp
   obtain ⟨cb,hcb⟩:∃ cb,cb=ntC b:=⟨_,rfl⟩
   have hcl:cb.length=9:=by rw [hcb]; simp
   rw [← hcb] at hld sN0 r89 hll
   simp only [ntC] at sN0
   have hUp:Up w ⟨(w'.heap.put w'.next (some (.cells [.int .i64 0,.string ⟨⟨[]⟩⟩,.int .i64 0,.string ⟨⟨[]⟩⟩,.string ⟨⟨[]⟩⟩,.int .i64 0,.int .i64 0,.int .i64 0,.int .i64 0] 62 false))).put w'.next (some (.cells cb 62 false)),w'.next + 1,w'.lim⟩:=((hU.add _).put hn' (Nat.le_refl _))
   cases hc:noteB b with
   | true =>
    have h2:(L.take (i + 1)).all noteB=true:=by rw [all_take hb,hA,hc]; rfl
    simp [mc57_l0,t8,t9,t10,hlt',hia,hld,sN0,lw,hll,hcl,r89,hc,hw,List.take_of_length_le, -wrO_cells]
    exact ⟨by omega,hUp,hzl,hlt,by simpa using h2⟩
   | false =>
    have h2:notesB L=false:=by unfold notesB; rw [all_no hb hc,Bool.and_false]
    simp [mc57_l0,t8,t9,t10,hlt',hia,hld,sN0,lw,hll,hcl,r89,hc,hw,tupV,h2,List.take_of_length_le, -wrO_cells]
  ·have hge:¬ zi < zl:=by omega
   have e:i=L.length:=by omega
   rw [e,List.take_length] at hA
   have h2:notesB L=true:=by unfold notesB; rw [hA,decide_eq_true h40]; rfl
   simp [mc57_l0,t8,t9,t10,hge,tupV,h2]
 ·have h40':(40:Int) < (L.length:Int):=by omega
  have h2:notesB L=false:=by unfold notesB; rw [decide_eq_false h40,Bool.false_and]
  simp [mc57,hl,h40',tupV,h2]
theorem rule57 {ov:Ov} (h:HasP ov 57 S57.F) {u:Value} {L:List Nt} {w:AW} (hv:RowsV ntC w u L) (m:Nat):(run Tryz.prog ov (m + 1)).call 57 [u] w .none=.ok (.ret (.bool (notesB L))) w .none:=S57.call h ⟨u,L,rfl,hv,rfl⟩
def ckE (L:List Nt):Int:=if notesB L=true then 0 else 100
def S17:PSpec where
 R args w v:=∃ (u:Value) (L:List Nt),args=[u]∧RowsV ntC w u L∧v=.int .i64 (ckE L)
 uniq:=by
  rintro _ _ _ _ ⟨u,L,rfl,h,rfl⟩ ⟨u',L',e,h',rfl⟩
  cases e
  rw [h.uniq ntC_length (fun a b=>ntC_inj) h']
 shut h:=h
theorem run17 {ov:Ov} (ho:∀ args w,ov 17 args w=none) (h57:HasP ov 57 S57.F) (u:Value) (L:List Nt) (w:AW) (hv:RowsV ntC w u L):∃ v w',(run Tryz.prog ov 2).call 17 [u] w .none=.ok (.ret v) w' .none∧v=.int .i64 (ckE L):=by
 refine call_wp text17 (by simp) (ho _ _) ?_
 have r:=rule57 h57 hv 0
 cases hc:notesB L <;> simp [mc17,r,hc,ckE,tupV]
end Go.Proofs.YtnjknghdpobcmaaGreatDoor.walk
