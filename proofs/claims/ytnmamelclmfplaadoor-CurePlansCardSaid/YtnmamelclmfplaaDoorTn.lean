/-
  rostellumlaw06.CurePlans (Reaches agrees with the reference; Plan gives the acts and the error that the reference finds, which tries every list of acts) answers true whatever the rule, the days, the box, the acts and the limit are, and they read behind the call as before.
  Conditions: those of the given row alone (its listed variable of the program holds what its initialiser lays; the card ties it to the text of the program).
  How: a machine of its own (the texts Sh) is proved to say of each call what the model does, whatever order is drawn; each function is said by a relation (CW). Plan's search and the reference's, which both call themselves and keep what they know in maps, are each said by what they leave to do (CX4 to CX8; CY1 to CY5); that both find the same list, the first of the shortest, is arithmetic (CX2, CY1, CY6).
-/
import Derived.Test.YtnmamelclmfplaaDoorTm
import Derived.Test.YtnmamelclmfplaaDoorTl
import Derived.Test.YtnmamelclmfplaaDoorTf
import Derived.Test.YtnmamelclmfplaaDoorTd
import Derived.Test.YtnmamelclmfplaaDoorShF
import Derived.Test.YtnmamelclmfplaaDoorCards
import Derived.Test.YtnmamelclmfplaaDoorTie
import Derived.WalkKit
import Derived.ProofKit
import Derived.OpenShut
import Derived.Deep.DeepHandedRow
import Derived.Deep.DeepWitnessRowRef
set_option linter.all false
namespace Go.Proofs.YtnmamelclmfplaaDoor.walk
open Go Go.Sh
set_option maxRecDepth 100000
/-! the specification's search: find, the whole; Plan -/
section
variable {ov:Ov} {r:List CAct} {d:List CDay} {b:CBox} {lim:Sp} {many:Nat} {w0:AW} {rv dv:Value} {S km:Nat}
set_option maxHeartbeats 1000000 in
theorem call77 (h:Hs77 ov) (hR:ruleB r=true) (hD:daysB d=true) (hB:boxB b=true) (hbx:bxE r d b=0) (hl0:w0.lim≤w0.next) (hrv:RowsV actC w0 rv r) (hdv:RowsV cdayC w0 dv d):∀ j m,H77 ov r d b lim many w0 rv dv S km (m + j + 5) j
 | 0,m=>by
  intro so t v w hso hj hv hM
  have hA:=act_at hbx hso
  have hlen:=stg_len hR hso
  have hub:=hM.base
  have hrw:=hrv.up hub
  have gS:=hM.sr
  have rj:notJunk rv=some rv:=by obtain ⟨x,y,rfl⟩:=hrv.len; rfl
  have vj:notJunk v=some v:=by obtain ⟨x,y,rfl⟩:=hv.len; rfl
  have hlv:=fun w'=>len28V (w':=w') hv
  have hwl:=hM.wl
  have hne:=hM.ne
  have hlt2:=hM.lt
  obtain ⟨_,w2,c72,rfl,u2⟩:=call72 (ov:=ov) (lim:=lim) m h.o72 h.o67 h.o65 h.h61 h.h87 hA rv v w (by omega) hrw hv
  rw [sur_at hA hso] at c72
  have hm:(so.length:Int)=(many:Int):=by omega
  have gS2:=(hM.up u2).sr
  have hsame:sameVal 5 rv rv=true∧sameVal 5 v v=true:=by
   obtain ⟨x,y,e⟩:=hrv.len
   obtain ⟨x2,y2,e2⟩:=hv.len
   rw [e,e2]
   exact ⟨same_slice _ _ _,same_slice _ _ _⟩
  simp only [boxC,spC] at c72
  have goal:∃ x w',(run Tryd.prog ov (m + 5)).call 77 [ptB S,v] w .none=.ok (.ret x) w' .none∧x=.tuple ⟨[v,.bool (soB b lim t)]⟩∧w'=w2:=by
   refine call_wp text77 (by simp) (h.o77 _ _) ?_
   rw [hm] at hlv
   simp [mc77,ptB,gS,vj,rj,hlv,c72,cellsOf_agg,tupV]
  obtain ⟨_,_,g1,rfl,rfl⟩:=goal
  refine ⟨v,soB b lim t,_,g1,vj,hM.up u2,Kp.of u2,fun e=>⟨[],by rw [List.append_nil]; exact hv.up u2,Comp.zero.2 ⟨rfl,e⟩,fun acts hc=>?_⟩,fun e acts hc=>?_⟩
  ·rw [(Comp.zero.1 hc).1]; rfl
  ·rw [(Comp.zero.1 hc).2] at e; cases e
 | j + 1,m=>by
  intro so t v w hso hj hv hM
  have H:=call77 h hR hD hB hbx hl0 hrv hdv j m
  have hlen:=stg_len hR hso
  have hgd:=good_of hR hD hso
  have gS:=hM.sr
  have vj:notJunk v=some v:=by obtain ⟨x,y,rfl⟩:=hv.len; rfl
  have hlv:=fun w'=>len28V (w':=w') hv
  have hwl:=hM.wl
  have hne:=hM.ne
  have hlt2:=hM.lt
  have hm:¬ (so.length:Int)=(many:Int):=by omega
  have hm':¬ so.length=many:=by omega
  have r96:=fun w' hv'=>run96 (m + j + 2) h.o96 h.o106 v so hgd w' hv'
  have r96w:=r96 w hv
  obtain ⟨L,hL,hKL⟩:=hM.map
  have hlk:=lookup_k (P:=Tryd.prog) (s:=122) map122 tx_ok zero4 hL (keyL so) false
  have goal:∃ x w',(run Tryd.prog ov (m + j + 1 + 5)).call 77 [ptB S,v] w .none=.ok (.ret x) w' .none∧∃ v1 ok,x=.tuple ⟨[v1,.bool ok]⟩∧notJunk v1=some v1∧Ms r d b lim many w0 rv dv S km w'∧Kp (fun x=>x=km) w w'∧R77 r d (soB b lim) so t (j + 1) v1 ok w':=by
   refine call_wp text77 (by simp) (h.o77 _ _) ?_
   cases hv2:lookK L (keyL so) with
   | some bv =>
    obtain ⟨rfl,hno⟩:=hKL _ _ hv2
    have hn:=hno so t hso (by omega) rfl
    rw [show many - so.length=j + 1 by omega] at hn
    rw [hv2] at hlk
    have hlk:lookupA Tryd.prog w 122 (.map (some km)) (.string ⟨⟨keyL so⟩⟩) false=.val (.bool true) w:=hlk
    simp [mc77,ptB,gS,vj,hlv,hm,hm',r96w,hlk,tupV]
    exact ⟨hM,Kp.refl _ _,⟨fun hh=>(by cases hh),fun _=>hn⟩⟩
   | none =>
    rw [hv2] at hlk
    have hlk:lookupA Tryd.prog w 122 (.map (some km)) (.string ⟨⟨keyL so⟩⟩) false=.val (.bool false) w:=hlk
    simp [mc77,ptB,gS,vj,hlv,hm,hm',r96w,hlk]
    refine wp_seqX (wp_blockX (loop77 (m + j + 4) j h hR hD hl0 hrv hdv H so t hso (by omega) v w hv hM _ _ ?_ ?_ ?_ ?_ ?_ ?_))
    ·simp [ptB]
    ·simp
    ·simp
    ·simp
    ·intro tt w2 hM2 hK2 s1 s6 hnone
     obtain ⟨L2,hL2,hKL2⟩:=hM2.map
     have hwl2:=hM2.wl
     have r96b:=r96 w2 (rows_km hM hK2 hv)
     have hup:=update_k (P:=Tryd.prog) (s:=122) map122 tx_ok hL2 (by omega) (keyL so) true
     have hup:mapUpdateA Tryd.prog w2 122 (.map (some km)) (.string ⟨⟨keyL so⟩⟩) (.bool true)=_:=hup
     simp [s1,s6,vj,r96b,hup,tupV]
     refine ⟨⟨fun x hx=>?_,?_,⟨updK L2 (keyL so) true,?_,fun key bv hb=>?_⟩,hM2.ne,hM2.lt,hM2.wl⟩,⟨fun x hx hne2=>?_,hK2.next,hK2.lim⟩,⟨fun hh=>(by cases hh),fun _=>hnone⟩⟩
     ·show (w2.heap.put km _).get x=_
      rw [get_put,if_neg (by omega)]; exact hM2.old x hx
     ·show (w2.heap.put km _).get S=_
      rw [get_put,if_neg hne.1]; exact hM2.sr
     ·unfold MapAt
      show (w2.heap.put km _).get km=_
      rw [get_put,if_pos rfl]
     ·rw [lookK_upd] at hb
      by_cases es:key=keyL so
      ·rw [if_pos es] at hb
       refine ⟨(Option.some.inj hb).symm,fun so' t' hso' hle' hk' acts hc=>?_⟩
       have ht:=key_stage hR hD hso' hso (hk'.trans es)
       have hl:=(key_inj (good_of hR hD hso') hgd (hk'.trans es)).1
       rw [ht,hl,show many - so.length=j + 1 by omega] at hc
       exact hnone acts hc
      ·rw [if_neg es] at hb
       exact hKL2 key bv hb
     ·show (w2.heap.put km _).get x=_
      rw [get_put,if_neg hne2]; exact hK2.keep x hx hne2
    ·intro tt w2 v1 hM2 hK2 s4 s5 hj1 hR1
     simp [s4,s5,hj1,tupV]
     exact ⟨hM2,hK2,hR1⟩
  obtain ⟨_,w',g1,v1,ok,rfl,g2,g3,g4,g5⟩:=goal
  refine ⟨v1,ok,w',?_,g2,g3,g4,g5⟩
  rw [show m + (j + 1) + 5=m + j + 1 + 5 by omega]
  exact g1
def RefE (r:List CAct) (d:List CDay) (b:CBox) (lim:Sp) (w:AW) (pv:Value) (e:Int):Prop :=
 (bxE r d b ≠ 0∧e=bxE r d b∧pv=.slice none 0 0)∨(bxE r d b=0∧spanI lim.1 lim.2 0 1000=false∧e=7∧pv=.slice none 0 0)∨(bxE r d b=0∧spanI lim.1 lim.2 0 1000=true∧e=4∧pv=.slice none 0 0∧∀ m,m≤d.length→∀ acts,¬ Comp r d (soB b lim) m startS acts)∨(bxE r d b=0∧spanI lim.1 lim.2 0 1000=true∧e=0∧∃ (n:Nat) (l:List Int),n≤d.length∧RowsV intC w pv l∧Comp r d (soB b lim) n startS l∧(∀ m,m < n→∀ acts,¬ Comp r d (soB b lim) m startS acts)∧∀ acts,Comp r d (soB b lim) n startS acts→lexL acts l=false)
end
section
variable {ov:Ov} {r:List CAct} {d:List CDay} {b:CBox} {lim:Sp} {rv dv:Value}
set_option maxHeartbeats 1000000 in
theorem call32 (M:Nat) (ho:∀ args w,ov 32 args w=none) (h:Hs77 ov) (h55:HasP ov 55 S55.F) (h76:HasP ov 76 S76.F) (w:AW) (hl:w.lim≤w.next) (hrv:RowsV actC w rv r) (hdv:RowsV cdayC w dv d) :
  ∃ v w',(run Tryd.prog ov (M + 20)).call 32 [rv,dv,.agg ⟨boxC b⟩,.agg ⟨spC lim⟩] w .none=.ok (.ret v) w' .none∧∃ pv e,v=.tuple ⟨[pv,.int .i64 e]⟩∧Up w w'∧notJunk pv=some pv∧RefE r d b lim w' pv e:=by
 refine call_wp text32 (by simp) (ho _ _) ?_
 obtain ⟨w1,hw1⟩:∃ w1:AW,w1=⟨(w.heap.put w.next (some (.cells [.int .i64 b.wl,.int .i64 b.wh,.int .i64 b.sl,.int .i64 b.sh] 27 false))).put (w.next + 1) (some (.cells [.int .i64 lim.1,.int .i64 lim.2] 25 false)),w.next + 1 + 1,w.lim⟩:=⟨_,rfl⟩
 have u1:Up w w1:=by rw [hw1]; exact ((Up.refl w).add _).put (Nat.le_succ _) (Nat.le_succ _)
 have n1:w1.next=w.next + 2:=by rw [hw1]
 have l1:w1.lim=w.lim:=u1.lim
 have g7:w1.heap.get (w.next + 1)=some (.cells [.int .i64 lim.1,.int .i64 lim.2] 25 false):=by rw [hw1]; show ((w.heap.put _ _).put _ _).get _=_; rw [get_put,if_pos rfl]
 have g6:w1.heap.get w.next=some (.cells [.int .i64 b.wl,.int .i64 b.wh,.int .i64 b.sl,.int .i64 b.sh] 27 false):=by rw [hw1]; show ((w.heap.put _ _).put _ _).get _=_; rw [get_put,if_neg (by omega),get_put,if_pos rfl]
 have r76:=S76.call (P:=Tryd.prog) h76 (m:=M + 18) (w:=w1) ⟨rv,dv,r,d,b,rfl,hrv.up u1,hdv.up u1,rfl⟩
 have r55:=fun w=>S55.call (P:=Tryd.prog) h55 (m:=M + 18) (w:=w) ⟨lim.1,lim.2,0,1000,rfl,rfl⟩
 have rj:notJunk rv=some rv:=by obtain ⟨x,y,rfl⟩:=hrv.len; rfl
 have dj:notJunk dv=some dv:=by obtain ⟨x,y,rfl⟩:=hdv.len; rfl
 have nj0:notJunk (.slice none 0 0)=some (.slice none 0 0):=rfl
 have hrv1:=hrv.up u1
 have hdv1:=hdv.up u1
 by_cases hE:bxE r d b=0
 case neg =>
  rw [hw1] at r76
  simp only [boxC,spC] at r76 ⊢
  simp [mc32,cellsOf_agg,rj,dj,r76,hE,tupV]
  rw [← hw1]
  exact ⟨_,_,⟨rfl,rfl⟩,u1,rfl,.inl ⟨hE,rfl,rfl⟩⟩
 rw [hE] at r76
 obtain ⟨hR,hD,hB⟩:=bx_of hE
 have hdl:=days_len hD
 cases hS:spanI lim.1 lim.2 0 1000 with
 | false =>
  rw [hS] at r55
  rw [hw1] at r76
  simp only [boxC,spC] at r76 ⊢
  simp [mc32,cellsOf_agg,rj,dj,r76,r55,tupV]
  rw [← hw1]
  exact ⟨_,_,⟨rfl,rfl⟩,u1,rfl,.inr (.inl ⟨hE,hS,rfl,rfl⟩)⟩
 | true =>
  rw [hS] at r55
  rw [hw1] at r76
  simp only [boxC,spC] at r76 ⊢
  simp [mc32,cellsOf_agg,rj,dj,r76,r55]
  rw [← hw1]
  obtain ⟨ra,rc,erv⟩:=hrv.len
  obtain ⟨da,dc,edv⟩:=hdv.len
  refine wp_seqX (wp_blockX (wp_rounds (fun n t w2=>Up w1 w2∧tget t 0=rv∧tget t 1=dv∧tget t 6=.pointer (some ⟨w.next,0,none⟩)∧tget t 7=.pointer (some ⟨w.next + 1,0,none⟩)∧tget t 11=.int .i64 (n:Int)∧n≤d.length + 1∧∀ m,m < n→∀ acts,¬ Comp r d (soB b lim) m startS acts) 30 (by decide) ?_ ?_))
  ·exact ⟨Up.refl _,by simp,by simp,by simp,by simp,by simp,Nat.zero_le _,fun m hm=>absurd hm (Nat.not_lt_zero _)⟩
  ·rintro n t w2 ⟨u2,t0,t1,t6,t7,t11,hn,hnone⟩
   have u12:=u1.trans u2
   have hn2:=u2.next
   have lm2:=u2.lim
   have g62:=(u2.at (show w.next < w1.next by omega)).trans g6
   have g72:=(u2.at (show w.next + 1 < w1.next by omega)).trans g7
   have hld:=fun w'=>len23V (w':=w') hdv
   by_cases hle:n≤d.length
   ·have hle':(n:Int)≤(d.length:Int):=by omega
    have hw:IntKind.wrap .i64 ((n:Int) + 1)=(n:Int) + 1:=wrap64_in (by omega) (by omega)
    obtain ⟨w3,hw3⟩:∃ w3:AW,w3=⟨(w2.heap.put w2.next (some (.map [] 0))).put (w2.next + 1) (some (.cells [rv,dv,.int .i64 b.wl,.int .i64 b.wh,.int .i64 b.sl,.int .i64 b.sh,.int .i64 lim.1,.int .i64 lim.2,.int .i64 (n:Int),.map (some w2.next)] 124 false)),w2.next + 1 + 1,w2.lim⟩:=⟨_,rfl⟩
    have u3:Up w2 w3:=by rw [hw3]; exact ((Up.refl w2).add _).put (Nat.le_succ _) (Nat.le_succ _)
    have n3:w3.next=w2.next + 2:=by rw [hw3]
    have hM:Ms r d b lim n w2 rv dv (w2.next + 1) w2.next w3:=by
     refine ⟨fun x hx=>u3.at hx,?_,⟨[],?_,fun key bv hb=>?_⟩,⟨by omega,by omega,Nat.le_refl _⟩,⟨by omega,by omega⟩,u3.lim⟩
     ·rw [hw3]; show ((w2.heap.put _ _).put _ _).get _=_; rw [get_put,if_pos rfl]
     ·unfold MapAt
      rw [hw3]; show ((w2.heap.put _ _).put _ _).get _=_; rw [get_put,if_neg (by omega),get_put,if_pos rfl]; rfl
     ·rw [lookK_nil] at hb; cases hb
    obtain ⟨m,hm⟩:∃ m,M + 19=m + n + 5:=⟨M + 14 - n,by omega⟩
    obtain ⟨v1,ok,w4,c77,hj1,hM4,hK4,hR4⟩:=call77 h hR hD hB hE (by omega) (hrv.up u12) (hdv.up u12) n m [] startS (.slice none 0 0) w3 rfl (by simp) (.inl ⟨rfl,_,_,rfl⟩) hM
    rw [← hm,hw3] at c77
    simp only [ptB] at c77
    have u24:Up w2 w4:=⟨fun x hx=>hM4.old x hx,by have:=hK4.next; omega,hM4.wl⟩
    rw [erv,edv] at c77
    rw [erv] at t0
    rw [edv] at t1 hld
    cases ok with
    | false =>
     simp [mc32_l0,t0,t1,t6,t7,t11,hld,hle,hle',g62,g72,cellsOf_agg,c77,hj1,hw]
     refine ⟨by omega,u2.trans u24,by rw [erv],by rw [edv],fun m2 hm2 acts hc=>?_⟩
     by_cases e:m2=n
     ·subst e; exact hR4.2 rfl acts hc
     ·exact hnone m2 (by omega) acts hc
    | true =>
     obtain ⟨rest,y1,y2,y3⟩:=hR4.1 rfl
     simp [mc32_l0,t0,t1,t6,t7,t11,hld,hle,hle',g62,g72,cellsOf_agg,c77,hj1,tupV]
     exact ⟨_,_,⟨rfl,rfl⟩,u12.trans u24,hj1,.inr (.inr (.inr ⟨hE,hS,rfl,n,rest,hle,y1,y2,hnone,y3⟩))⟩
   ·have hle':¬ (n:Int)≤(d.length:Int):=by omega
    simp [mc32_l0,t1,t11,hld,hle,hle',tupV]
    exact ⟨_,_,⟨rfl,rfl⟩,u12,rfl,.inr (.inr (.inl ⟨hE,hS,rfl,rfl,fun m hm acts=>hnone m (by omega) acts⟩))⟩
end
structure Has5 (ov:Ov):Prop where
 hL:HasL ov
 h7:Hs77 ov
 o30:∀ args w,ov 30 args w=none
 o31:∀ args w,ov 31 args w=none
 o32:∀ args w,ov 32 args w=none
 o74:∀ args w,ov 74 args w=none
 h18:HasP ov 18 S18.F
 h29:HasP ov 29 S29.F
 h55:HasP ov 55 S55.F
 h60:HasP ov 60 S60r.F
 h70:HasP ov 70 S70.F
 h73:HasP ov 73 S73.F
 h76:HasP ov 76 S76.F
 hW:HasW ov
theorem Pre.comp {r:List CAct} {d:List CDay} {so:Stg→Bool} {n k:Nat} (h0:leftG r d so n startS=(k:Int)) {p:List Int} {s:Stg} (h:Pre r d so n k p s) (hp:p.length=k):Comp r d so k startS p:=⟨hp,s,h.stg,h.end h0 hp⟩
theorem same_plans {r:List CAct} {d:List CDay} {b:CBox} {lim:Sp} {w1 w2:AW} {v1 v2:Value} {e1 e2:Int} (h1:PlanE r d b lim w1 v1 e1) (h2:RefE r d b lim w2 v2 e2):e1=e2∧∃ L:List Int,L.length≤1000∧RowsV intC w1 v1 L∧RowsV intC w2 v2 L:=by
 have nil:∀ w:AW,RowsV intC w (.slice none 0 0) []:=fun w=>.inl ⟨rfl,_,_,rfl⟩
 rcases h1 with ⟨p1,rfl,rfl⟩ | ⟨p1,p2,rfl,rfl⟩ | ⟨p1,p2,p3,rfl,rfl⟩ | ⟨p1,p2,rfl,k,p,s,A,p3,p4,p5,p6,p7,p8,rfl⟩
 ·rcases h2 with ⟨_,rfl,rfl⟩ | ⟨q,_⟩ | ⟨q,_⟩ | ⟨q,_⟩
  ·exact ⟨rfl,[],by simp,nil _,nil _⟩
  all_goals exact absurd q p1
 ·rcases h2 with ⟨q,_⟩ | ⟨_,_,rfl,rfl⟩ | ⟨_,q,_⟩ | ⟨_,q,_⟩
  ·exact absurd p1 q
  ·exact ⟨rfl,[],by simp,nil _,nil _⟩
  all_goals rw [p2] at q; cases q
 ·obtain ⟨hR,hD,hB⟩:=bx_of p1
  have hdl:=days_len hD
  rcases h2 with ⟨q,_⟩ | ⟨_,q,_⟩ | ⟨_,_,rfl,rfl,_⟩ | ⟨_,_,rfl,n,l,q1,q2,⟨c1,t2,c2,c3⟩,q4,q5⟩
  ·exact absurd p1 q
  ·rw [p2] at q; cases q
  ·exact ⟨rfl,[],by simp,nil _,nil _⟩
  ·exfalso
   have:=left_le (so:=soB b lim) (n:=d.length) c2 c3 (by omega)
   omega
 ·obtain ⟨hR,hD,hB⟩:=bx_of p1
  have hdl:=days_len hD
  have hst:=p5.stg
  have hkn:k≤d.length:=by have:=stg_len hR hst; omega
  have hc:=p5.comp p3 p6
  rcases h2 with ⟨q,_⟩ | ⟨_,q,_⟩ | ⟨_,_,rfl,rfl,q⟩ | ⟨_,_,rfl,n,l,q1,q2,⟨c1,t2,c2,c3⟩,q4,q5⟩
  ·exact absurd p1 q
  ·rw [p2] at q; cases q
  ·exact absurd hc (q k hkn p)
  ·have hle:=left_le (so:=soB b lim) (n:=d.length) c2 c3 (by omega)
   have hnk:n=k:=by
    rcases Nat.lt_or_ge k n with h | h
    ·exact absurd hc (q4 k h p)
    ·omega
   subst hnk
   have e:l=p:=lex_anti (by omega) (p5.first hkn p3 p6 c2 c3 c1) (q5 p hc)
   subst e
   refine ⟨rfl,l,by omega,?_,q2⟩
   rcases Nat.eq_zero_or_pos n with h0 | h0
   ·have:l=[]:=List.eq_nil_of_length_eq_zero (by omega)
    rw [h0,this]
    exact .inl ⟨rfl,_,_,rfl⟩
   ·exact .inr ⟨A,0,none,n,by rw [p6],⟨[],[],3,false,by simpa using p7,rfl⟩,p8⟩
theorem reach_form (r:List CAct) (d:List CDay) (b:CBox) (acts:List Int) (lim:Sp):∃ (x:Bool) (f:Int),reachR r d b acts lim=.tuple ⟨[.bool x,.int .i64 f]⟩:=by
 unfold reachR
 by_cases h:actE r d b acts=0
 ·rw [if_pos h]
  by_cases h2:spanI lim.1 lim.2 0 1000=true
  ·rw [if_pos h2]; exact ⟨_,_,rfl⟩
  ·rw [if_neg h2]; exact ⟨_,_,rfl⟩
 ·rw [if_neg h]; exact ⟨_,_,rfl⟩
set_option maxHeartbeats 2000000 in
theorem run5 {ov:Ov} (M:Nat) (ho:∀ args w,ov 5 args w=none) (h:Has5 ov) (r:List CAct) (d:List CDay) (b:CBox) (acts:List Int) (lim:Sp) (rv dv av:Value) (w:AW) (hl:w.lim=w.next) (hLim:LimW w) (hrv:RowsV actC w rv r) (hdv:RowsV cdayC w dv d) (hav:RowsV intC w av acts) (hcap:CapV av) :
  ∃ x w',(run Tryd.prog ov (M + 48)).call 5 [.agg ⟨curC rv dv b av⟩,.agg ⟨spC lim⟩] w .none=.ok (.ret x) w' .none∧x=.bool true:=by
 refine call_wp text5 (by simp) (ho _ _) ?_
 obtain ⟨w1,hw1⟩:∃ w1:AW,w1=⟨(w.heap.put w.next (some (.cells [rv,dv,.int .i64 b.wl,.int .i64 b.wh,.int .i64 b.sl,.int .i64 b.sh,av] 30 false))).put (w.next + 1) (some (.cells [.int .i64 lim.1,.int .i64 lim.2] 25 false)),w.next + 1 + 1,w.lim⟩:=⟨_,rfl⟩
 have u1:Up w w1:=by rw [hw1]; exact ((Up.refl w).add _).put (Nat.le_succ _) (Nat.le_succ _)
 have n1:w1.next=w.next + 2:=by rw [hw1]
 have l1:w1.lim=w.lim:=u1.lim
 have gX1:w1.heap.get w.next=some (.cells [rv,dv,.int .i64 b.wl,.int .i64 b.wh,.int .i64 b.sl,.int .i64 b.sh,av] 30 false):=by rw [hw1]; show ((w.heap.put _ _).put _ _).get _=_; rw [get_put,if_neg (by omega),get_put,if_pos rfl]
 have gZ1:w1.heap.get (w.next + 1)=some (.cells [.int .i64 lim.1,.int .i64 lim.2] 25 false):=by rw [hw1]; show ((w.heap.put _ _).put _ _).get _=_; rw [get_put,if_pos rfl]
 obtain ⟨x,f,hform⟩:=reach_form r d b acts lim
 have r29:=S29.call (P:=Tryd.prog) h.h29 (m:=M + 46) (w:=w1) ⟨rv,dv,av,r,d,b,acts,lim,rfl,hrv.up u1,hdv.up u1,hav.up u1,hLim.up u1,by omega,rfl⟩
 rw [hform] at r29
 obtain ⟨_,w2,c30,e30,u2⟩:=call30 (ov:=ov) (M + 42) h.o30 h.h7.o72 h.h7.o67 h.h7.o65 h.h55 h.h60 h.h7.h61 h.h7.h87 r d b acts lim rv dv av w1 (by omega) (hrv.up u1) (hdv.up u1) (hav.up u1) hcap
 rw [e30,hform] at c30
 have u12:=u1.trans u2
 have hn2:=u2.next
 have hm2:=u12.lim
 have gX2:=(u2.at (show w.next < w1.next by omega)).trans gX1
 have gZ2:=(u2.at (show w.next + 1 < w1.next by omega)).trans gZ1
 obtain ⟨_,w3,c31,pv,e,rfl,u3,hj3,hP⟩:=call31 (b:=b) (lim:=lim) M h.o31 h.o74 h.h73 h.h70 h.hL w2 (by omega) (hLim.up u12) (hrv.up u12) (hdv.up u12)
 have u13:=u12.trans u3
 have hn3:=u3.next
 have hm3:=u13.lim
 have gX3:=(u3.at (show w.next < w2.next by omega)).trans gX2
 have gZ3:=(u3.at (show w.next + 1 < w2.next by omega)).trans gZ2
 obtain ⟨_,w4,c32,qv,e2,rfl,u4,hj4,hQ⟩:=call32 (b:=b) (lim:=lim) (M + 27) h.o32 h.h7 h.h55 h.h76 w3 (by omega) (hrv.up u13) (hdv.up u13)
 have u14:=u13.trans u4
 obtain ⟨rfl,L,hLl,hr1,hr2⟩:=same_plans hP hQ
 have r18:=S18.call (P:=Tryd.prog) h.h18 (m:=M + 46) (w:=w4) ⟨pv,qv,L,rfl,hr1.up u4,hr2,hLl,rfl⟩
 have rW:=ruleW h.hW (M + 46) (w:=w4) (hLim.up u14).1
 have rj:notJunk rv=some rv:=by obtain ⟨x,y,rfl⟩:=hrv.len; rfl
 have dj:notJunk dv=some dv:=by obtain ⟨x,y,rfl⟩:=hdv.len; rfl
 have aj:notJunk av=some av:=by obtain ⟨x,y,rfl⟩:=hav.len; rfl
 simp only [boxC,spC] at r29 c30 c31 c32
 simp only [curC,spC]
 rw [hw1] at r29 c30
 simp [mc5,cellsOf_agg,rj,dj,aj,r29,c30,gX2,gZ2,c31,hj3,gX3,gZ3,c32,hj4,r18,rW,tupV]
set_option maxRecDepth 1000000 in
theorem works_true:resIs (.bool true) ((run Tryd.prog noOv 1000).call 19 [] (startA 1 laidL) .none)=true:=by kernel_rfl
theorem mixed:Tryd.prog.follows .mixedOrders=true:=by kernel_rfl
theorem globals1:Tryd.prog.globals.size=1:=by kernel_rfl
theorem no_count:NoCount Tryd.prog:=NoCount.of (by kernel_rfl)
noncomputable def oW:Ov:=memoOv 19 [] laidL (.bool true) noOv
theorem okW':OvOk Tryd.prog oW:=memo_ok no_count mixed ov_none works_true (by kernel_rfl) (by kernel_rfl) (by rw [globals1]; exact Nat.le_refl _) (by kernel_rfl) ov_none
theorem oW_none {f:Nat} (hf:f ≠ 19) (args:List Value) (w:AW):oW f args w=none:=by
 have:Nat.beq f 19=false:=by rw [← Bool.not_eq_true]; intro h; exact hf (Nat.eq_of_beq_eq_true h)
 simp [oW,memoOv,this,noOv]
theorem oW_has:HasW oW:=fun w hw=>by
 have:=hasAll_lim hw
 simp [oW,memoOv,this,sameL5,sameVal.sameVals]
theorem HasW.skip {f:Nat} {F:PureF} {rest:Ov} (hf:19 ≠ f) (h:HasW rest):HasW (ovP f F rest):=fun w hw=>by simp [ovP,hf,h w hw]
theorem ovP_none {f g:Nat} {F:PureF} {rest:Ov} (hne:g ≠ f) (h:∀ args w,rest g args w=none) (args:List Value) (w:AW):ovP f F rest g args w=none:=by simp [ovP,hne,h]
theorem stgR_ground (o:Option Stg):groundC 3 (stgR o)=true:=by cases o <;> rfl
noncomputable def ovL:List (Nat × PureF)→Ov
 | []=>oW
 | x::l=>ovP x.1 x.2 (ovL l)
def keyB (g:Nat):List (Nat × PureF)→Bool
 | []=>Nat.beq g 19
 | x::l=>Nat.beq g x.1 || keyB g l
def lookF (g:Nat):List (Nat × PureF)→Option PureF
 | []=>none
 | x::l=>bif Nat.beq g x.1 then some x.2 else lookF g l
theorem beq_no {a b:Nat} (h:Nat.beq a b=false):a ≠ b:=fun e=>by rw [e,Nat.beq_refl] at h; cases h
theorem chN {g:Nat}:∀ {l:List (Nat × PureF)},keyB g l=false→∀ args w,ovL l g args w=none
 | [],h=>oW_none (beq_no h)
 | x::l,h=>by
  simp only [keyB,Bool.or_eq_false_iff] at h
  exact ovP_none (beq_no h.1) (chN h.2)
theorem chH {g:Nat} {F:PureF}:∀ {l:List (Nat × PureF)},lookF g l=some F→HasP (ovL l) g F
 | [],h=>by cases h
 | x::l,h=>by
  simp only [lookF] at h
  cases hb:Nat.beq g x.1 with
  | true =>
   rw [hb] at h
   cases h
   have e:=Nat.eq_of_beq_eq_true hb
   subst e
   exact .here
  | false =>
   rw [hb] at h
   exact HasP.skip (beq_no hb) (chH h)
def memB (g:Nat):List (Nat × PureF)→Bool
 | []=>false
 | x::l=>Nat.beq g x.1 || memB g l
theorem chW:∀ {l:List (Nat × PureF)},memB 19 l=false→HasW (ovL l)
 | [],_=>oW_has
 | x::l,h=>by
  simp only [memB,Bool.or_eq_false_iff] at h
  exact HasW.skip (beq_no h.1) (chW h.2)
theorem all_ground (n:Nat):∀ l:List Sp,groundC.allC (groundC (n + 1)) (l.flatMap spC)=true
 | []=>rfl
 | _::l=>by
  rw [List.flatMap_cons]
  exact all_ground n l
theorem rows_ground (l:List Sp):groundC 3 (.agg ⟨l.flatMap spC⟩)=true:=all_ground 1 l
theorem narR_ground (o:Option (List Sp)):groundC 3 (narR o)=true:=by
 cases o with
 | none=>rfl
 | some V =>
  show (bif groundC 2 (.agg ⟨V.flatMap spC⟩) then (bif true then true else false) else false)=true
  rw [show groundC 2 (.agg ⟨V.flatMap spC⟩)=true from all_ground 0 V]
  rfl
theorem reachR_ground (r:List CAct) (d:List CDay) (b:CBox) (acts:List Int) (lim:Sp):groundC 3 (reachR r d b acts lim)=true:=by unfold reachR; split <;> (try split) <;> rfl
noncomputable def l39:List (Nat × PureF):=(39,S39.F)::[]
noncomputable def o39:Ov:=ovL l39
theorem ok39:OvOk Tryd.prog (ovP 39 S39.F (ovL [])):=S39.ok no_count mixed okW' fun args w v hl h=>by
 obtain ⟨n,a,b,rfl,rfl⟩:=h
 obtain ⟨v',w',hc,e⟩:=run39 (ov:=(ovL [])) (chN rfl) n a b w
 exact ⟨rfl,2,v',w',_,hc,e⟩
noncomputable def l46:List (Nat × PureF):=(46,S46.F)::l39
noncomputable def o46:Ov:=ovL l46
theorem ok46:OvOk Tryd.prog (ovP 46 S46.F o39):=S46.ok no_count mixed ok39 fun args w v hl h=>by
 obtain ⟨s,k,rfl,hk,rfl⟩:=h
 obtain ⟨v',w',hc,e⟩:=run46 (ov:=o39) (chN rfl) s k hk w
 exact ⟨rfl,2,v',w',_,hc,e⟩
noncomputable def l82:List (Nat × PureF):=(82,S82.F)::l46
noncomputable def o82:Ov:=ovL l82
theorem ok82:OvOk Tryd.prog (ovP 82 S82.F o46):=S82.ok no_count mixed ok46 fun args w v hl h=>by
 obtain ⟨n,a,b,rfl,rfl⟩:=h
 obtain ⟨v',w',hc,e⟩:=run82 (ov:=o46) (chN rfl) n a b w
 exact ⟨rfl,2,v',w',_,hc,e⟩
noncomputable def l92:List (Nat × PureF):=(92,S92.F)::l82
noncomputable def o92:Ov:=ovL l92
theorem ok92:OvOk Tryd.prog (ovP 92 S92.F o82):=S92.ok no_count mixed ok82 fun args w v hl h=>by
 obtain ⟨a,b,rfl,rfl⟩:=h
 obtain ⟨v',w',hc,e⟩:=run92 (ov:=o82) (chN rfl) a b w
 exact ⟨rfl,2,v',w',_,hc,e⟩
noncomputable def l93:List (Nat × PureF):=(93,S93.F)::l92
noncomputable def o93:Ov:=ovL l93
theorem ok93:OvOk Tryd.prog (ovP 93 S93.F o92):=S93.ok no_count mixed ok92 fun args w v hl h=>by
 obtain ⟨a,b,c,d,rfl,rfl⟩:=h
 obtain ⟨v',w',hc,e⟩:=run93 (ov:=o92) (chN rfl) a b c d w
 exact ⟨rfl,2,v',w',_,hc,e⟩
noncomputable def l81:List (Nat × PureF):=(81,S81.F)::l93
noncomputable def o81:Ov:=ovL l81
theorem ok81:OvOk Tryd.prog (ovP 81 S81.F o93):=S81.ok no_count mixed ok93 fun args w v hl h=>by
 obtain ⟨q,n,s,rfl,hq,hL,rfl⟩:=h
 obtain ⟨v',w',hc,e⟩:=run81 (ov:=o93) (chN rfl) (chH rfl) q n s hq w hL
 exact ⟨rfl,2,v',w',_,hc,e⟩
noncomputable def l70:List (Nat × PureF):=(70,S70.F)::l81
noncomputable def o70:Ov:=ovL l70
theorem ok70:OvOk Tryd.prog (ovP 70 S70.F o81):=S70.ok no_count mixed ok81 fun args w v hl h=>by
 obtain ⟨q,a,b,s,rfl,hq,hL,rfl⟩:=h
 obtain ⟨v',w',hc,e⟩:=run70 (ov:=o81) (chN rfl) (chH rfl) (chH rfl) q a b s hq w hl hL
 exact ⟨rfl,2,v',w',_,hc,e⟩
noncomputable def l94:List (Nat × PureF):=(94,S94.F)::l70
noncomputable def o94:Ov:=ovL l94
theorem ok94:OvOk Tryd.prog (ovP 94 S94.F o70):=S94.ok no_count mixed ok70 fun args w v hl h=>by
 obtain ⟨b,rfl,hL,rfl⟩:=h
 obtain ⟨v',w',hc,e⟩:=run94 (ov:=o70) (chN rfl) (chH rfl) b w hl hL
 exact ⟨rfl,2,v',w',_,hc,e⟩
noncomputable def l55:List (Nat × PureF):=(55,S55.F)::l94
noncomputable def o55:Ov:=ovL l55
theorem ok55:OvOk Tryd.prog (ovP 55 S55.F o94):=S55.ok no_count mixed ok94 fun args w v hl h=>by
 obtain ⟨lo,hi,a,b,rfl,rfl⟩:=h
 obtain ⟨v',w',hc,e⟩:=run55 (ov:=o94) (chN rfl) lo hi a b w
 exact ⟨rfl,2,v',w',_,hc,e⟩
noncomputable def l53:List (Nat × PureF):=(53,S53.F)::l55
noncomputable def o53:Ov:=ovL l53
theorem ok53:OvOk Tryd.prog (ovP 53 S53.F o55):=S53.ok no_count mixed ok55 fun args w v hl h=>by
 obtain ⟨x,r,rfl,hv,hL,rfl⟩:=h
 obtain ⟨v',w',hc,e⟩:=run53 (ov:=o55) (chN rfl) (chH rfl) (chH rfl) r x w hl hv hL
 exact ⟨rfl,2,v',w',_,hc,e⟩
noncomputable def l54:List (Nat × PureF):=(54,S54.F)::l53
noncomputable def o54:Ov:=ovL l54
theorem ok54:OvOk Tryd.prog (ovP 54 S54.F o53):=S54.ok no_count mixed ok53 fun args w v hl h=>by
 obtain ⟨x,d,rfl,hv,hL,rfl⟩:=h
 obtain ⟨v',w',hc,e⟩:=run54 (ov:=o53) (chN rfl) (chH rfl) d x w hl hv hL
 exact ⟨rfl,2,v',w',_,hc,e⟩
noncomputable def l14:List (Nat × PureF):=(14,S14.F)::l54
noncomputable def o14:Ov:=ovL l14
theorem ok14:OvOk Tryd.prog (ovP 14 S14.F o54):=S14.ok no_count mixed ok54 fun args w v hl h=>by
 obtain ⟨x,y,r,d,rfl,hv,hd,hL,rfl⟩:=h
 obtain ⟨v',w',hc,e⟩:=run14 (ov:=o54) (chN rfl) (chH rfl) (chH rfl) r d x y w hv hd hL
 exact ⟨rfl,2,v',w',_,hc,e⟩
noncomputable def l15:List (Nat × PureF):=(15,S15.F)::l14
noncomputable def o15:Ov:=ovL l15
theorem ok15:OvOk Tryd.prog (ovP 15 S15.F o14):=S15.ok no_count mixed ok14 fun args w v hl h=>by
 obtain ⟨x,y,r,d,rfl,hv,hd,rfl⟩:=h
 obtain ⟨v',w',hc,e⟩:=run15 (ov:=o14) (chN rfl) (chH rfl) (chH rfl) r d x y w hv hd
 exact ⟨rfl,2,v',w',_,hc,e⟩
noncomputable def l100:List (Nat × PureF):=(100,S100.F)::l15
noncomputable def o100:Ov:=ovL l100
theorem ok100:OvOk Tryd.prog (ovP 100 S100.F o15):=S100.ok no_count mixed ok15 fun args w v hl h=>by
 obtain ⟨s,a,n,rfl,hs,ha,_,rfl⟩:=h
 obtain ⟨v',w',hc,e⟩:=run100 (ov:=o15) (chN rfl) s a n hs ha w hl
 exact ⟨rfl,2,v',w',_,hc,e⟩
noncomputable def l78:List (Nat × PureF):=(78,S78.F)::l100
noncomputable def o78:Ov:=ovL l78
theorem ok78:OvOk Tryd.prog (ovP 78 S78.F o100):=S78.ok no_count mixed ok100 fun args w v hl h=>by
 obtain ⟨rfl,_,rfl⟩:=h
 obtain ⟨v',w',hc,e⟩:=run78 (ov:=o100) (chN rfl) w hl
 exact ⟨rfl,2,v',w',_,hc,e⟩
noncomputable def l107:List (Nat × PureF):=(107,S107.F)::l78
noncomputable def o107:Ov:=ovL l107
theorem ok107:OvOk Tryd.prog (ovP 107 S107.F o78):=S107.ok no_count mixed ok78 fun args w v hl h=>by
 obtain ⟨x,n,y,s,rfl,hs,rfl⟩:=h
 obtain ⟨v',w',hc,e⟩:=run107 (ov:=o78) (chN rfl) x n y s w
 exact ⟨rfl,2,v',w',_,hc,e⟩
noncomputable def l108:List (Nat × PureF):=(108,S108.F)::l107
noncomputable def o108:Ov:=ovL l108
theorem ok108:OvOk Tryd.prog (ovP 108 S108.F o107):=S108.ok no_count mixed ok107 fun args w v hl h=>by
 obtain ⟨x,n,y,s,rfl,hs,rfl⟩:=h
 obtain ⟨v',w',hc,e⟩:=run108 (ov:=o107) (chN rfl) x n y s w
 exact ⟨rfl,2,v',w',_,hc,e⟩
noncomputable def l109:List (Nat × PureF):=(109,S109.F)::l108
noncomputable def o109:Ov:=ovL l109
theorem ok109:OvOk Tryd.prog (ovP 109 S109.F o108):=S109.ok no_count mixed ok108 fun args w v hl h=>by
 obtain ⟨x,n,y,s,rfl,hs,rfl⟩:=h
 obtain ⟨v',w',hc,e⟩:=run109 (ov:=o108) (chN rfl) x n y s hs w
 exact ⟨rfl,2,v',w',_,hc,e⟩
noncomputable def l110:List (Nat × PureF):=(110,S110.F)::l109
noncomputable def o110:Ov:=ovL l110
theorem ok110:OvOk Tryd.prog (ovP 110 S110.F o109):=S110.ok no_count mixed ok109 fun args w v hl h=>by
 obtain ⟨x,n,y,s,rfl,hs,rfl⟩:=h
 obtain ⟨v',w',hc,e⟩:=run110 (ov:=o109) (chN rfl) x n y s w
 exact ⟨rfl,2,v',w',_,hc,e⟩
noncomputable def l51:List (Nat × PureF):=(51,S51.F)::l110
noncomputable def o51:Ov:=ovL l51
theorem ok51:OvOk Tryd.prog (ovP 51 S51.F o110):=S51.ok no_count mixed ok110 fun args w v hl h=>by
 obtain ⟨rv,dv,av,r,d,acts,rfl,h1,h2,h3,hR,hD,rfl⟩:=h
 obtain ⟨v',w',hc,e⟩:=run51 (ov:=o110) (chN rfl) (chN rfl) (chN rfl) (chN rfl) (chH rfl) (chH rfl) (chH rfl) (chH rfl) (chH rfl) (chH rfl) r d hR hD acts rv dv av w hl h1 h2 h3
 exact ⟨(stgR_ground _),4,v',w',_,hc,e⟩
noncomputable def l80:List (Nat × PureF):=(80,S80.F)::l51
noncomputable def o80:Ov:=ovL l80
theorem ok80:OvOk Tryd.prog (ovP 80 S80.F o51):=S80.ok no_count mixed ok51 fun args w v hl h=>by
 obtain ⟨rv,dv,sv,r,d,so,a,rfl,h1,h2,h3,hR,hD,hso,rfl⟩:=h
 obtain ⟨v',w',hc,e⟩:=run80 (ov:=o51) (chN rfl) (chH rfl) (chH rfl) r d hR hD so a hso rv dv sv w hl h1 h2 h3
 exact ⟨rfl,2,v',w',_,hc,e⟩
noncomputable def l52:List (Nat × PureF):=(52,S52.F)::l80
noncomputable def o52:Ov:=ovL l52
theorem ok52:OvOk Tryd.prog (ovP 52 S52.F o80):=S52.ok no_count mixed ok80 fun args w v hl h=>by
 obtain ⟨rv,dv,av,r,d,acts,rfl,h1,h2,h3,hc,hR,hD,rfl⟩:=h
 obtain ⟨v',w',hc,e⟩:=run52 (ov:=o80) (chN rfl) (chH rfl) r d hR hD acts rv dv av w h1 h2 h3 hc
 exact ⟨rfl,2,v',w',_,hc,e⟩
noncomputable def l73:List (Nat × PureF):=(73,S73.F)::l52
noncomputable def o73:Ov:=ovL l73
theorem ok73:OvOk Tryd.prog (ovP 73 S73.F o52):=S73.ok no_count mixed ok52 fun args w v hl h=>by
 obtain ⟨rv,dv,r,d,b,rfl,h1,h2,hL,rfl⟩:=h
 obtain ⟨v',w',hc,e⟩:=run73 (ov:=o52) (chN rfl) (chH rfl) (chH rfl) r d b rv dv w h1 h2 hL
 exact ⟨rfl,2,v',w',_,hc,e⟩
noncomputable def l76:List (Nat × PureF):=(76,S76.F)::l73
noncomputable def o76:Ov:=ovL l76
theorem ok76:OvOk Tryd.prog (ovP 76 S76.F o73):=S76.ok no_count mixed ok73 fun args w v hl h=>by
 obtain ⟨rv,dv,r,d,b,rfl,h1,h2,rfl⟩:=h
 obtain ⟨v',w',hc,e⟩:=run76 (ov:=o73) (chN rfl) (chH rfl) (chH rfl) r d b rv dv w h1 h2
 exact ⟨rfl,2,v',w',_,hc,e⟩
noncomputable def l56:List (Nat × PureF):=(56,S56.F)::l76
noncomputable def o56:Ov:=ovL l56
theorem ok56:OvOk Tryd.prog (ovP 56 S56.F o76):=S56.ok no_count mixed ok76 fun args w v hl h=>by
 obtain ⟨rv,dv,av,r,d,b,acts,rfl,h1,h2,h3,hL,_,rfl⟩:=h
 obtain ⟨v',w',hc,e⟩:=run56 (ov:=o76) (chN rfl) (chH rfl) (chH rfl) r d b acts rv dv av w hl h1 h2 h3 hL
 exact ⟨rfl,2,v',w',_,hc,e⟩
noncomputable def l60:List (Nat × PureF):=(60,S60r.F)::l56
noncomputable def o60:Ov:=ovL l60
theorem ok60:OvOk Tryd.prog (ovP 60 S60r.F o56):=S60r.ok no_count mixed ok56 fun args w v hl h=>by
 obtain ⟨rv,dv,av,lv,r,d,b,acts,l,rfl,h1,h2,h3,h4,hc,rfl⟩:=h
 obtain ⟨v',w',hc,e⟩:=run60r (ov:=o56) (chN rfl) (chH rfl) (chH rfl) (chH rfl) r d b acts l rv dv av lv w h1 h2 h3 h4 hc
 exact ⟨rfl,2,v',w',_,hc,e⟩
noncomputable def l101:List (Nat × PureF):=(101,S101.F)::l60
noncomputable def o101:Ov:=ovL l101
theorem ok101:OvOk Tryd.prog (ovP 101 S101.F o60):=S101.ok no_count mixed ok60 fun args w v hl h=>by
 obtain ⟨c,b,rfl,hc,hb,rfl⟩:=h
 obtain ⟨v',w',hc,e⟩:=run101 (ov:=o60) (chN rfl) c b hc hb w
 exact ⟨rfl,2,v',w',_,hc,e⟩
noncomputable def l85:List (Nat × PureF):=(85,S85.F)::l101
noncomputable def o85:Ov:=ovL l85
theorem ok85:OvOk Tryd.prog (ovP 85 S85.F o101):=S85.ok no_count mixed ok101 fun args w v hl h=>by
 obtain ⟨c,b,rfl,hc,hb,rfl⟩:=h
 obtain ⟨v',w',hc,e⟩:=run85 (ov:=o101) (chN rfl) (chH rfl) c b hc hb w
 exact ⟨rfl,2,v',w',_,hc,e⟩
noncomputable def l61:List (Nat × PureF):=(61,S61.F)::l85
noncomputable def o61:Ov:=ovL l61
theorem ok61:OvOk Tryd.prog (ovP 61 S61.F o85):=S61.ok no_count mixed ok85 fun args w v hl h=>by
 obtain ⟨x,s,rfl,h,rfl⟩:=h
 obtain ⟨v',w',hc,e⟩:=run61 (ov:=o85) (chN rfl) (chH rfl) x s h w
 exact ⟨rfl,2,v',w',_,hc,e⟩
noncomputable def l84:List (Nat × PureF):=(84,S84.F)::l61
noncomputable def o84:Ov:=ovL l84
theorem ok84:OvOk Tryd.prog (ovP 84 S84.F o61):=S84.ok no_count mixed ok61 fun args w v hl h=>by
 obtain ⟨x,s,rfl,h,rfl⟩:=h
 obtain ⟨v',w',hc,e⟩:=run84 (ov:=o61) (chN rfl) x s h w
 exact ⟨rfl,2,v',w',_,hc,e⟩
noncomputable def l18:List (Nat × PureF):=(18,S18.F)::l84
noncomputable def o18:Ov:=ovL l18
theorem ok18:OvOk Tryd.prog (ovP 18 S18.F o84):=S18.ok no_count mixed ok84 fun args w v hl h=>by
 obtain ⟨a,b,L,rfl,h1,h2,hlen,rfl⟩:=h
 obtain ⟨v',w',hc,e⟩:=run18 (ov:=o84) (chN rfl) L hlen a b w h1 h2
 exact ⟨rfl,2,v',w',_,hc,e⟩
noncomputable def l129:List (Nat × PureF):=(129,S129.F)::l18
noncomputable def o129:Ov:=ovL l129
theorem ok129:OvOk Tryd.prog (ovP 129 S129.F o18):=S129.ok no_count mixed ok18 fun args w v hl h=>by
 obtain ⟨p,rfl,h1,_,rfl⟩:=h
 obtain ⟨v',w',hc,e⟩:=run129 (ov:=o18) (chN rfl) p h1 w hl
 exact ⟨rfl,2,v',w',_,hc,e⟩
noncomputable def l130:List (Nat × PureF):=(130,S130.F)::l129
noncomputable def o130:Ov:=ovL l130
theorem ok130:OvOk Tryd.prog (ovP 130 S130.F o129):=S130.ok no_count mixed ok129 fun args w v hl h=>by
 obtain ⟨p,rfl,h1,h2,_,rfl⟩:=h
 obtain ⟨v',w',hc,e⟩:=run130 (ov:=o129) (chN rfl) p h1 h2 w hl
 exact ⟨rfl,2,v',w',_,hc,e⟩
noncomputable def l131:List (Nat × PureF):=(131,S131.F)::l130
noncomputable def o131:Ov:=ovL l131
theorem ok131:OvOk Tryd.prog (ovP 131 S131.F o130):=S131.ok no_count mixed ok130 fun args w v hl h=>by
 obtain ⟨p,rfl,h1,h2,_,rfl⟩:=h
 obtain ⟨v',w',hc,e⟩:=run131 (ov:=o130) (chN rfl) p h1 h2 w hl
 exact ⟨rfl,2,v',w',_,hc,e⟩
noncomputable def l111:List (Nat × PureF):=(111,S111.F)::l131
noncomputable def o111:Ov:=ovL l111
theorem ok111:OvOk Tryd.prog (ovP 111 S111.F o131):=S111.ok no_count mixed ok131 fun args w v hl h=>by
 obtain ⟨s,p,lv,rfl,hv,h1,h2,_,rfl⟩:=h
 obtain ⟨v',w',hc,e⟩:=run111 (ov:=o131) (chN rfl) (chH rfl) s p lv h1 h2 w hl hv
 exact ⟨rfl,2,v',w',_,hc,e⟩
noncomputable def l112:List (Nat × PureF):=(112,S112.F)::l111
noncomputable def o112:Ov:=ovL l112
theorem ok112:OvOk Tryd.prog (ovP 112 S112.F o111):=S112.ok no_count mixed ok111 fun args w v hl h=>by
 obtain ⟨s,p,lv,rfl,hv,h1,h2,_,rfl⟩:=h
 obtain ⟨v',w',hc,e⟩:=run112 (ov:=o111) (chN rfl) (chH rfl) s p lv h1 h2 w hl hv
 exact ⟨rfl,2,v',w',_,hc,e⟩
noncomputable def l102:List (Nat × PureF):=(102,S102.F)::l112
noncomputable def o102:Ov:=ovL l102
theorem ok102:OvOk Tryd.prog (ovP 102 S102.F o112):=S102.ok no_count mixed ok112 fun args w v hl h=>by
 obtain ⟨s,l,lv,rfl,hv,h1,h2,_,rfl⟩:=h
 obtain ⟨v',w',hc,e⟩:=run102 (ov:=o112) (chN rfl) (chH rfl) s l lv h1 h2 w hl hv
 exact ⟨rfl,2,v',w',_,hc,e⟩
noncomputable def l104:List (Nat × PureF):=(104,S104.F)::l102
noncomputable def o104:Ov:=ovL l104
theorem ok104:OvOk Tryd.prog (ovP 104 S104.F o102):=S104.ok no_count mixed ok102 fun args w v hl h=>by
 obtain ⟨b,pv,L,W,rfl,hv,h1,hL,h2,h3,_,rfl⟩:=h
 obtain ⟨v',w',hc,e⟩:=run104 (ov:=o102) (chN rfl) (chN rfl) (chH rfl) (chH rfl) (chH rfl) b pv L W h1 hL h2 h3 w hl hv
 exact ⟨(narR_ground _),3,v',w',_,hc,e⟩
noncomputable def l64:List (Nat × PureF):=(64,S64.F)::l104
noncomputable def o64:Ov:=ovL l64
theorem ok64:OvOk Tryd.prog (ovP 64 S64.F o104):=S64.ok no_count mixed ok104 fun args w v hl h=>by
 obtain ⟨b,p,n,c,rfl,hn,rfl⟩:=h
 obtain ⟨v',w',hc,e⟩:=run64 (ov:=o104) (chN rfl) b p n c hn w
 exact ⟨rfl,2,v',w',_,hc,e⟩
noncomputable def l86:List (Nat × PureF):=(86,S86.F)::l64
noncomputable def o86:Ov:=ovL l86
theorem ok86:OvOk Tryd.prog (ovP 86 S86.F o64):=S86.ok no_count mixed ok64 fun args w v hl h=>by
 obtain ⟨b,pv,lv,L,l,rfl,hpv,hlen,hL,hb,hlv,h10,hR,hLim,_,rfl⟩:=h
 obtain ⟨v',w',hc,e⟩:=run86 (ov:=o64) (chN rfl) (chN rfl) (chH rfl) (chH rfl) (chH rfl) b hb L hlen hL l h10 hR pv lv w hl hLim hpv hlv
 exact ⟨(narR_ground _),3,v',w',_,hc,e⟩
noncomputable def l88:List (Nat × PureF):=(88,S88.F)::l86
noncomputable def o88:Ov:=ovL l88
theorem ok88:OvOk Tryd.prog (ovP 88 S88.F o86):=S88.ok no_count mixed ok86 fun args w v hl h=>by
 obtain ⟨b,pv,L,V,D,rfl,hpv,hlen,hL,hV,hVb,hD,_,rfl⟩:=h
 obtain ⟨v',w',hc,e⟩:=run88 (ov:=o86) (chN rfl) (chH rfl) (chH rfl) b pv L V D hlen hL hV hVb hD w hl hpv
 exact ⟨(rows_ground _),2,v',w',_,hc,e⟩
noncomputable def l71:List (Nat × PureF):=(71,S71.F)::l88
noncomputable def o71:Ov:=ovL l71
theorem ok71:OvOk Tryd.prog (ovP 71 S71.F o88):=S71.ok no_count mixed ok88 fun args w v hl h=>by
 obtain ⟨b,pv,L,lim,rfl,hpv,hlen,hL,hb,hLim,_,rfl⟩:=h
 obtain ⟨v',w',hc,e⟩:=run71 (ov:=o88) (chN rfl) (chN rfl) (chH rfl) (chH rfl) (chH rfl) (chH rfl) (chH rfl) b hb pv L lim hlen hL w hl hLim hpv
 exact ⟨rfl,4,v',w',_,hc,e⟩
noncomputable def l29:List (Nat × PureF):=(29,S29.F)::l71
noncomputable def o29:Ov:=ovL l29
theorem ok29:OvOk Tryd.prog (ovP 29 S29.F o71):=S29.ok no_count mixed ok71 fun args w v hl h=>by
 obtain ⟨rv,dv,av,r,d,b,acts,lim,rfl,h1,h2,h3,hL,_,rfl⟩:=h
 obtain ⟨v',w',hc,e⟩:=run29 (ov:=o71) (chN rfl) (chN rfl) (chH rfl) (chH rfl) (chH rfl) r d b acts lim rv dv av w hl hL h1 h2 h3
 exact ⟨(reachR_ground _ _ _ _ _),3,v',w',_,hc,e⟩
noncomputable def l87:List (Nat × PureF):=(87,S87.F)::l29
noncomputable def o87:Ov:=ovL l87
theorem ok87:OvOk Tryd.prog (ovP 87 S87.F o29):=S87.ok no_count mixed ok29 fun args w v hl h=>by
 obtain ⟨a,b,rfl,_,rfl⟩:=h
 obtain ⟨v',w',hc,e⟩:=run87 (ov:=o29) (chN rfl) a b w hl
 exact ⟨rfl,2,v',w',_,hc,e⟩
theorem top5:Has5 o87:=⟨⟨chN rfl,chN rfl,chN rfl,chN rfl,chN rfl,chH rfl,chH rfl,chH rfl,chH rfl,chH rfl,chH rfl,chH rfl⟩,⟨chN rfl,chN rfl,chN rfl,chN rfl,chN rfl,chN rfl,chN rfl,chH rfl,chH rfl,chH rfl⟩,chN rfl,chN rfl,chN rfl,chN rfl,chH rfl,chH rfl,chH rfl,chH rfl,chH rfl,chH rfl,chH rfl,chW rfl⟩
theorem top_true (r:List CAct) (d:List CDay) (b:CBox) (acts:List Int) (lim:Sp) (rv dv av:Value) (w:AW) (hl:w.lim=w.next) (hL:LimW w) (hrv:RowsV actC w rv r) (hdv:RowsV cdayC w dv d) (hav:RowsV intC w av acts) (hcap:CapV av):∃ w' x',(run Tryd.prog o87 48).call 5 [.agg ⟨curC rv dv b av⟩,.agg ⟨spC lim⟩] w .none=.ok (.ret (.bool true)) w' x':=by
 obtain ⟨_,w',h1,rfl⟩:=run5 (ov:=o87) 0  (chN rfl) top5 r d b acts lim rv dv av w hl hL hrv hdv hav hcap
 exact ⟨w',_,h1⟩
open Go Go.Sh Go.ChangeShapes Go.WideShapes Go.ChangeAt Go.RowKit
theorem u3:Tryd.prog.underlying 3=some (.int .i64):=by kernel_rfl
theorem u4:Tryd.prog.underlying 4=some .bool:=by kernel_rfl
theorem u22:Tryd.prog.underlying 22=some (.slice 78):=by kernel_rfl
theorem u23:Tryd.prog.underlying 23=some (.slice 83):=by kernel_rfl
theorem u28:Tryd.prog.underlying 28=some (.slice 3):=by kernel_rfl
theorem u25:Tryd.prog.underlying 25=some (.struct (fieldsOf Tryd.prog 25)):=by kernel_rfl
theorem u27:Tryd.prog.underlying 27=some (.struct (fieldsOf Tryd.prog 27)):=by kernel_rfl
theorem u30:Tryd.prog.underlying 30=some (.struct (fieldsOf Tryd.prog 30)):=by kernel_rfl
theorem u32:Tryd.prog.underlying 32=some (.struct (fieldsOf Tryd.prog 32)):=by kernel_rfl
theorem u78:Tryd.prog.underlying 78=some (.struct (fieldsOf Tryd.prog 78)):=by kernel_rfl
theorem u83:Tryd.prog.underlying 83=some (.struct (fieldsOf Tryd.prog 83)):=by kernel_rfl
theorem f25:(fieldsOf Tryd.prog 25).toList.map (fun f=>(f.type,f.offset))=[(3,0),(3,1)]:=by kernel_rfl
theorem f27:(fieldsOf Tryd.prog 27).toList.map (fun f=>(f.type,f.offset))=[(25,0),(25,2)]:=by kernel_rfl
theorem f30:(fieldsOf Tryd.prog 30).toList.map (fun f=>(f.type,f.offset))=[(22,0),(23,1),(27,2),(28,6)]:=by kernel_rfl
theorem f78:(fieldsOf Tryd.prog 78).toList.map (fun f=>(f.type,f.offset))=[(3,0),(3,1),(4,2),(4,3),(3,4),(25,5)]:=by kernel_rfl
theorem f83:(fieldsOf Tryd.prog 83).toList.map (fun f=>(f.type,f.offset))=[(25,0),(4,2)]:=by kernel_rfl
theorem c3:Tryd.prog.cellsOf 3=1:=by kernel_rfl
theorem c4:Tryd.prog.cellsOf 4=1:=by kernel_rfl
theorem c22:Tryd.prog.cellsOf 22=1:=by kernel_rfl
theorem c23:Tryd.prog.cellsOf 23=1:=by kernel_rfl
theorem c28:Tryd.prog.cellsOf 28=1:=by kernel_rfl
theorem c25:Tryd.prog.cellsOf 25=2:=by kernel_rfl
theorem c27:Tryd.prog.cellsOf 27=4:=by kernel_rfl
theorem c30:Tryd.prog.cellsOf 30=7:=by kernel_rfl
theorem c32:Tryd.prog.cellsOf 32=3:=by kernel_rfl
theorem c78:Tryd.prog.cellsOf 78=7:=by kernel_rfl
theorem c83:Tryd.prog.cellsOf 83=3:=by kernel_rfl
theorem toBoolW {H:T AObj} {n:Nat} {cs:List Value} (h:WT Tryd.prog H n 4 cs):∃ b,cs=[.bool b]:=by
 cases h with
 | bool hu=>exact ⟨_,rfl⟩
 | int hu _=>rw [u4] at hu; cases hu
 | string hu _=>rw [u4] at hu; cases hu
 | slNil hu=>rw [u4] at hu; cases hu
 | sl0 hu=>rw [u4] at hu; cases hu
 | sl hu _ _ _ _ _ _=>rw [u4] at hu; cases hu
 | struct hu _ _=>rw [u4] at hu; cases hu
 | array hu _ _=>rw [u4] at hu; cases hu
theorem span_of {H:T AObj} {n:Nat} {cs:List Value} (h:WT Tryd.prog H n 25 cs):∃ a b,cs=[.int .i64 a,.int .i64 b]:=by
 obtain ⟨hl,hf⟩:=h.toStruct u25
 rw [f25] at hf
 rw [c25] at hl
 obtain ⟨a,ha,_⟩:=(hf (3,0) (by simp)).toInt u3
 obtain ⟨b,hb,_⟩:=(hf (3,1) (by simp)).toInt u3
 rw [c3] at ha hb
 match cs,hl with
 | [x,y],_ =>
  simp at ha hb
  exact ⟨a,b,by rw [ha,hb]⟩
theorem act_ofW {H:T AObj} {n:Nat} {cs:List Value} (h:WT Tryd.prog H n 78 cs):∃ a,cs=actC a:=by
 obtain ⟨hl,hf⟩:=h.toStruct u78
 rw [f78] at hf
 rw [c78] at hl
 obtain ⟨a,ha,_⟩:=(hf (3,0) (by simp)).toInt u3
 obtain ⟨b,hb,_⟩:=(hf (3,1) (by simp)).toInt u3
 obtain ⟨c,hc⟩:=toBoolW (hf (4,2) (by simp))
 obtain ⟨d,hd⟩:=toBoolW (hf (4,3) (by simp))
 obtain ⟨e,he,_⟩:=(hf (3,4) (by simp)).toInt u3
 obtain ⟨p,q,hp⟩:=span_of (hf (25,5) (by simp))
 rw [c3] at ha hb he
 rw [c4] at hc hd
 rw [c25] at hp
 match cs,hl with
 | [x0,x1,x2,x3,x4,x5,x6],_ =>
  simp at ha hb hc hd he hp
  exact ⟨⟨a,b,c,d,e,p,q⟩,by rw [ha,hb,hc,hd,he,hp.1,hp.2]; rfl⟩
theorem day_ofW {H:T AObj} {n:Nat} {cs:List Value} (h:WT Tryd.prog H n 83 cs):∃ a,cs=cdayC a:=by
 obtain ⟨hl,hf⟩:=h.toStruct u83
 rw [f83] at hf
 rw [c83] at hl
 obtain ⟨p,q,hp⟩:=span_of (hf (25,0) (by simp))
 obtain ⟨c,hc⟩:=toBoolW (hf (4,2) (by simp))
 rw [c4] at hc
 rw [c25] at hp
 match cs,hl with
 | [x0,x1,x2],_ =>
  simp at hc hp
  exact ⟨⟨p,q,c⟩,by rw [hc,hp.1,hp.2]; rfl⟩
theorem box_ofW {H:T AObj} {n:Nat} {cs:List Value} (h:WT Tryd.prog H n 27 cs):∃ b,cs=boxC b:=by
 obtain ⟨hl,hf⟩:=h.toStruct u27
 rw [f27] at hf
 rw [c27] at hl
 obtain ⟨a,b,ha⟩:=span_of (hf (25,0) (by simp))
 obtain ⟨c,d,hc⟩:=span_of (hf (25,2) (by simp))
 rw [c25] at ha hc
 match cs,hl with
 | [x0,x1,x2,x3],_ =>
  simp at ha hc
  exact ⟨⟨a,b,c,d⟩,by rw [ha.1,ha.2,hc.1,hc.2]; rfl⟩
theorem rows_ofW {α:Type} {f:α→List Value} {m:Nat} {H:T AObj} {n lim:Nat} {t e:TypeId} {cs:List Value} (hu:Tryd.prog.underlying t=some (.slice e)) (hc:Tryd.prog.cellsOf e=m) (hf:∀ a,(f a).length=m) (hone:∀ cs,WT Tryd.prog H n e cs→∃ a,cs=f a) (h:WT Tryd.prog H n t cs) :
  ∃ v l,cs=[v]∧RowsV f ⟨H,n,lim⟩ v l∧CapV v:=by
 obtain ⟨v,l,hv,hr⟩:=rows_of_WT (lim:=lim) hu hc hf hone h
 refine ⟨v,l,hv,hr,?_⟩
 rcases WT.toSlice hu h with ⟨a,ha⟩ | ⟨b,k,c,ty,ro,ha,_⟩
 ·rw [hv] at ha; cases ha; exact ⟨a,0,0,rfl,Nat.le_refl _⟩
 ·rw [hv] at ha; cases ha; exact ⟨_,k,k,rfl,Nat.le_refl _⟩
theorem ints_of {H:T AObj} {n lim:Nat} {cs:List Value} (h:WT Tryd.prog H n 28 cs):∃ v l,cs=[v]∧RowsV intC ⟨H,n,lim⟩ v l∧CapV v :=
 rows_ofW u28 c3 intC_length (fun cs h=>by
  obtain ⟨z,hz,_⟩:=h.toInt u3
  exact ⟨z,hz⟩) h
theorem cured_arg {A:AW} {m:Value} (h:ArgT Tryd.prog A.heap A.next 30 m):∃ rv dv b av r d acts,m=.agg ⟨curC rv dv b av⟩∧RowsV actC A rv r∧RowsV cdayC A dv d∧RowsV intC A av acts∧CapV av:=by
 unfold ArgT at h
 rw [u30] at h
 obtain ⟨c,rfl,h⟩:=h
 obtain ⟨hl,hf⟩:=h.toStruct u30
 rw [f30] at hf
 rw [c30] at hl
 obtain ⟨rv,r,hr,hR,_⟩:=rows_ofW (lim:=A.lim) u22 c78 actC_length (fun cs h=>act_ofW h) (hf (22,0) (by simp))
 obtain ⟨dv,d,hd,hD,_⟩:=rows_ofW (lim:=A.lim) u23 c83 cdayC_length (fun cs h=>day_ofW h) (hf (23,1) (by simp))
 obtain ⟨b,hb⟩:=box_ofW (hf (27,2) (by simp))
 obtain ⟨av,acts,ha,hA,hC⟩:=ints_of (lim:=A.lim) (hf (28,6) (by simp))
 rw [c22] at hr
 rw [c23] at hd
 rw [c27] at hb
 rw [c28] at ha
 match c,hl with
 | [x0,x1,x2,x3,x4,x5,x6],_ =>
  simp [boxC] at hr hd hb ha
  exact ⟨rv,dv,b,av,r,d,acts,by rw [hr,hd,hb.1,hb.2.1,hb.2.2.1,hb.2.2.2,ha]; rfl,hR,hD,hA,hC⟩
theorem span_arg {A:AW} {m:Value} (h:ArgT Tryd.prog A.heap A.next 25 m):∃ a b,m=.agg ⟨spC (a,b)⟩:=by
 unfold ArgT at h
 rw [u25] at h
 obtain ⟨c,rfl,h⟩:=h
 obtain ⟨a,b,rfl⟩:=span_of h
 exact ⟨a,b,rfl⟩
theorem lim_start:(startH laidL).get 0=some (.cells limC 141 true):=by
 show ((startH []).put 0 (some (.cells limC 141 true))).get 0=_
 rw [get_put,if_pos rfl]
theorem lim_atA {A:AW} (hG:Tryd.prog.globals.size≤A.next) (hs:∀ b,b < Tryd.prog.globals.size→A.heap.get b=(startH laidL).get b):LimW A:=by
 rw [globals1] at hG hs
 exact ⟨⟨true,by rw [hs 0 (by decide),lim_start]⟩,hG⟩
theorem ty30:tyOk Tryd.prog 6 30=true:=by kernel_rfl
theorem ty25:tyOk Tryd.prog 6 25=true:=by kernel_rfl
theorem start_true (A:AW) (ms:List Value) (hl:A.lim=A.next) (hG:Tryd.prog.globals.size≤A.next) (hs:∀ b,b < Tryd.prog.globals.size→A.heap.get b=(startH laidL).get b) (hms:ArgsT Tryd.prog A.heap A.next [30,25] ms) (_hz:∀ (j:Nat) t e a k c,[30,25][j]?=some t→Tryd.prog.underlying t=some (.slice e)→ms[j]?=some (.slice a k c)→k * Tryd.prog.bytesOf e≤reachBytes) :
  ∃ A' x',(run Tryd.prog o87 48).call 5 ms A .none=.ok (.ret (.bool true)) A' x':=by
 have hL:=lim_atA hG hs
 match ms,hms with
 | [m1,m2],hm =>
  obtain ⟨rv,dv,b,av,r,d,acts,rfl,h1,h2,h3,h4⟩:=cured_arg hm.1
  obtain ⟨p,q,rfl⟩:=span_arg hm.2.1
  exact top_true r d b acts (p,q) rv dv av A hl hL h1 h2 h3 h4
open Go.ChangeShapes Go.WideShapes Go.ChangeAt Go.RowKit Go.Sh
theorem own:ownKnob Tryd.prog.godebug=none:=by kernel_rfl
theorem row0:RowOf Tryd.prog 0 14 141:=.of (by kernel_rfl)
theorem g0:Tryd.prog.globalNamed "rostellum/cure.limits"=some 0:=by kernel_rfl
theorem t0:(Tryd.prog.globals[0]?).map (·.type)=some 141:=by kernel_rfl
theorem lim_dat:datC Tryd.prog 5 141 Rows.laid_rostellum_cure_limits=some limC:=by kernel_rfl
def laidRow:List (String × DataW Unit):=[("rostellum/cure.limits",Rows.laid_rostellum_cure_limits)]
theorem laid_ok {W:World} (hs:W.ShapedOpen Tryd.prog) (hL:laidMet Tryd.prog laidRow W):LaidOk Tryd.prog W laidL:=by
 intro x hx
 unfold laidL at hx
 rcases List.mem_cons.1 hx with rfl | hx
 ·exact laid_plain hs hL (.head _) g0 (by rw [globals1]; decide) t0 lim_dat (by kernel_rfl) row0
 ·cases hx
theorem kids:Kids Tryd.prog (· < Tryd.prog.types.size):=kids_rows (by kernel_rfl) (by kernel_rfl)
theorem wide:slicesWide Tryd.prog=true:=by kernel_rfl
noncomputable def laidWorld (os:Os):World :=
 let w0:=World.holding Tryd.prog os ⟨#[],#[],[]⟩
 { w0 with heap:=w0.heap.modify 0 fun
  | .cells _ t frozen=>.cells limC.toArray t frozen
  | o=>o }
theorem laid_met (os:Os) (args:Array Value):laidMet Tryd.prog laidRow ((laidWorld os).forCall (fun _ _=>0) ⟨#[],args,[]⟩).memory :=
 laidMet_of_run' 8 (by kernel_rfl) (by kernel_rfl)
theorem reads (os:Os) {H:Type} (enc:TypeId × Value→H):∃ places,DataW.whole enc Tryd.prog ((laidWorld os).forCall (fun _ _=>0) ⟨#[],#[.agg ⟨[.slice none 0 0,.slice none 0 0,.int .i64 0,.int .i64 0,.int .i64 0,.int .i64 0,.slice none 0 0]⟩,.agg ⟨[.int .i64 0,.int .i64 0]⟩],[]⟩).memory Tryd.f5.params.toList Rows.curePlansSpec.vars false (#[Value.agg ⟨[.slice none 0 0,.slice none 0 0,.int .i64 0,.int .i64 0,.int .i64 0,.int .i64 0,.slice none 0 0]⟩,.agg ⟨[.int .i64 0,.int .i64 0]⟩]:Array Value).toList 8=some ([.agg [.nil,.nil,.agg [.agg [.lit (.int .i64 0),.lit (.int .i64 0)],.agg [.lit (.int .i64 0),.lit (.int .i64 0)]],.nil],.agg [.lit (.int .i64 0),.lit (.int .i64 0)]],[],places) :=
 ⟨[],by kernel_rfl⟩
theorem mem_all {t a b:Nat} (h:t ∈ [a,b]):t=a∨t=b:=by simpa using h
theorem params5:Tryd.f5.params.toList=[30,25]:=by kernel_rfl
set_option maxRecDepth 100000 in
theorem contract (H:Type) (enc:TypeId × Value→H) (W:World) (base:Nat) (args:Array Value) (ds gs:List (DataW H)) (before:List MemPlace)
  (hval:∀ (j:Nat) t v,Tryd.f5.params[j]?=some t→args[j]?=some v→Value.okWide Tryd.prog W .any base t v)
  (hW:DataW.Whole enc Tryd.prog Tryd.f5.params.toList Rows.curePlansSpec.vars false W args.toList ds gs before) {tw:List TypeId} (hz:(DataW.weightsEach Tryd.prog (Tryd.f5.params.toList++tw) (ds++gs)).all (·≤reachBytes)=true) (hL:laidMet Tryd.prog laidRow W) (hs:W.ShapedOpen Tryd.prog) :
  Calls Tryd.prog 5 args W fun e W'=>∃ v,e=.returned v∧Rows.curePlansSpec.post enc Tryd.prog Tryd.f5 false true false false W args v W':=by
 have hW':=hW
 obtain ⟨vs⟩:=args
 obtain ⟨p,q,hA,hV,rfl,hfz,hnd⟩:=hW
 obtain ⟨rfl,rfl⟩:=trodVars_none hV
 have hA':=hA
 rw [params5] at hA'
 rw [params5] at hz
 obtain ⟨_,hlen⟩:=trodAll_length _ _ _ _ hA'
 have key:=input_sized no_count mixed ok87 (laid_ok hs hL) (d:=6) (ts:=[30,25]) (f:=5) (m:=48) (fun t ht=>by rcases mem_all ht with rfl | rfl; exact ty30; exact ty25) (fun j t v h1 h2=>hval j t v (by rw [← Array.getElem?_toList,params5]; exact h1) (by simpa using h2)) hA' hlen hz start_true
 match ds,hlen with
 | [d1,d2],_ =>
  refine key.mono fun e W' ⟨he,hk⟩=>?_
  subst he
  exact ⟨_,rfl,post_stays (pa:=p) (pv:=[]) hW' (fun _ _ _=>trodAll_cons_mk (shut_bool Tryd.underlying4 _) trodAll_mk0)
   (fun sp hsp=>by
    show DataW.TrodAll enc Tryd.prog W' 0 sp true Tryd.f5.params.toList vs [d1,d2] p
    rw [params5]
    exact args_again kids wide hk [30,25] vs [d1,d2] p (fun t ht=>by rcases mem_all ht with rfl | rfl <;> decide +kernel) hA' (fun x hx=>hW'.lt x (by simpa using hx)) (fun x hx=>hsp x (by simpa using hx)))
   (fun _ _=>rfl) rfl hk (ok_one (by kernel_rfl) rfl (okWide_bool_mk Tryd.underlying4 _))⟩
set_option maxRecDepth 100000 in
theorem lifted (os:Os) (started:os.Started) (H:Type) (enc:TypeId × Value→H) (F:Stop.Interp) :
  ReturnsInHanded {} Tryd.checked os 5 .any ((OpenSpec.ofChange Rows.curePlansSpec).preRow enc Tryd.prog Tryd.f5 Rows.curePlansRow.domain false Rows.curePlansRow.laid) (((OpenSpec.ofChange Rows.curePlansSpec).at F).post enc Tryd.prog Tryd.f5 false true false false):=by
 obtain ⟨places,hx⟩:=reads os enc
 refine returnsInHanded_of_row (C:=Tryd.checked) (s:=OpenSpec.ofChange Rows.curePlansSpec) own started (by kernel_rfl) Tryd.func5
  (witness_row_atRef (enc:=enc) (C:=Tryd.checked) false (laidWorld os) #[.agg ⟨[.slice none 0 0,.slice none 0 0,.int .i64 0,.int .i64 0,.int .i64 0,.int .i64 0,.slice none 0 0]⟩,.agg ⟨[.int .i64 0,.int .i64 0]⟩] rfl (by kernel_rfl) (by kernel_rfl) (by kernel_rfl)
   (OpenSpec.preRow_of_cond 8 hx (by kernel_rfl) (fun k hk=>by cases hk) (by kernel_rfl) (laid_met os _))) ?_
 intro W base args ds gs before hval hW _ _ hz hL hs _
 exact contract H enc W base args ds gs before hval hW hz hL hs
theorem said:Rows.CurePlansSaid :=
 OpenClaim.holds_of_cond 5 Tryd.f5 rfl rfl rfl rfl rfl rfl rfl ⟨rfl,rfl,rfl,rfl,rfl⟩ rfl rfl rfl rfl rfl (by kernel_rfl) Tryd.func5 (by kernel_rfl)
  (of_decide_eq_true (by kernel_rfl)) (by unfold Func.isWrapper; first | (rw [if_pos (by decide +kernel)]; kernel_rfl) | (rw [if_neg (by decide +kernel)]; exact ⟨rfl,rfl⟩))
  (fun os started H enc _ F=>by rw [OpenClaim.pre_eq_preRow]; exact lifted os started H enc F)
theorem plain (f:FuncId) (fn:Func) (hf:Tryd.pinned.checked.prog.funcNamed "rostellum/rostellumlaw06.CurePlans"=some f) (hfn:Tryd.pinned.checked.prog.funcs[f]?=some fn) :
  false=Tryd.pinned.checked.prog.looks []∧∀ (j:Nat) t,fn.params[j]?=some t→Tryd.pinned.checked.prog.wantsStandIn t=false:=by
 obtain rfl:f=5:=Option.some.inj ((show Tryd.prog.funcNamed "rostellum/rostellumlaw06.CurePlans"=some 5 by kernel_rfl).symm.trans hf) |>.symm
 obtain rfl:fn=Tryd.f5:=(Option.some.inj (Tryd.func5.symm.trans hfn)).symm
 refine ⟨by kernel_rfl,fun j t ht=>?_⟩
 have h1:t ∈ Tryd.f5.params.toList:=by
  rw [← Array.getElem?_toList] at ht
  exact List.mem_of_getElem? ht
 rw [params5] at h1
 have k25:Tryd.prog.wantsStandIn 25=false:=by kernel_rfl
 have k30:Tryd.prog.wantsStandIn 30=false:=by kernel_rfl
 rcases mem_all h1 with rfl | rfl
 ·exact k30
 ·exact k25
set_option maxRecDepth 100000 in
theorem card:Rows.CurePlansCardSaid :=
 Claim7.holds_tied_plain_at .later [] _ _ _ _ said (fun _ h=>by cases h) (by kernel_rfl) (fun _ h=>by cases h) curePlans_row_tie rfl ⟨rfl,rfl⟩ (by kernel_rfl) rfl plain (by kernel_rfl)
end Go.Proofs.YtnmamelclmfplaaDoor.walk
