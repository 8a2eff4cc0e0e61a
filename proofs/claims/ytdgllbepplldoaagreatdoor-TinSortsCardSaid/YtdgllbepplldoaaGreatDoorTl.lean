/-
  rostellumlaw08.TinSorts (Sort returns the chapter's error, or a sorting with as many bundles as the chapter says) answers true whatever the rule and the pods are, and they read behind the call as before.
  Conditions: those of the given row alone (its listed variables of the library and of the program hold what their initialisers lay; the card ties them to the text of the program).
  How: a machine of its own (the texts Sh) is proved to say of each call what the model does, whatever order is drawn; both sorts of the library are proved to order (ID, II), the program's sweep and the specification's are one function of the sorted lengths (JA1, JA4, JA5), and what it makes is a sorting (JA6, JA7).
-/
import Derived.Test.YtdgllbepplldoaaGreatDoorTk
import Derived.Test.YtdgllbepplldoaaGreatDoorTe
import Derived.Test.YtdgllbepplldoaaGreatDoorShF
import Derived.Test.YtdgllbepplldoaaGreatDoorCards
import Derived.Test.YtdgllbepplldoaaGreatDoorTie
import Derived.WalkKit
import Derived.ProofKit
import Derived.OpenShut
import Derived.Deep.DeepHandedRow
import Derived.Deep.DeepWitnessRowRef
set_option linter.all false
namespace Go.Proofs.YtdgllbepplldoaaGreatDoor.walk
open Go Go.Sh
set_option maxRecDepth 100000
/-! TinSorts -/
structure Has4 (ov:Ov):Prop where
 h55:Has55 ov
 o16:∀ args w,ov 16 args w=none
 o17:∀ args w,ov 17 args w=none
 o18:∀ args w,ov 18 args w=none
 o19:∀ args w,ov 19 args w=none
 o23:∀ args w,ov 23 args w=none
 o24:∀ args w,ov 24 args w=none
 o25:∀ args w,ov 25 args w=none
 o54:∀ args w,ov 54 args w=none
 o57:∀ args w,ov 57 args w=none
 o58:∀ args w,ov 58 args w=none
 h53:HasP ov 53 S53.F
 hq:HasQ ov
section
variable {ov:Ov}
theorem call16 (m:Nat) (h:Has4 ov) (a b c:Int) (u:Value) (pods:List Int) (w:AW) (hl:w.lim≤w.next) (hu:RowsV intC w u pods) :
  ∃ v w',(run Tryz.prog ov (m + 210)).call 16 [.agg ⟨ruleC a b c⟩,u] w .none=.ok (.ret v) w' .none∧∃ (v1:Value) (acc:List El),v=.tuple ⟨[v1,.int .i64 (podE a b c pods)]⟩∧RowsV elC w' v1 acc∧((ruleB a b c && podsOk pods)=true→∃ (M:Nat) (L:List Pd),a=(M:Int)∧(1≤M∧M≤100)∧L.Perm (zI pods pods.length)∧Srt (fun x y=>pdK x y < 0) L 0 L.length∧acc.map (fun e=>e.2.2)=runG M (bunB b c) (L.length + 1) L∧∀ e ∈ acc,RowsV intC w' (elV e) e.2.1∧IdxOk e)∧((ruleB a b c && podsOk pods)=false→acc=[])∧notJunk v1=some v1∧Up w w':=by
 refine call_wp text16 (by simp) (h.o16 _ _) ?_
 obtain ⟨w1,hw1⟩:∃ w1:AW,w1=⟨w.heap.put w.next (some (.cells (ruleC a b c) 32 false)),w.next + 1,w.lim⟩:=⟨_,rfl⟩
 have u1:Up w w1:=by rw [hw1]; exact (Up.refl w).add _
 have n1:w1.next=w.next + 1:=by rw [hw1]
 have l1:w1.lim=w.lim:=by rw [hw1]
 have g1:w1.heap.get w.next=some (.cells [.int .i64 a,.int .i64 b,.int .i64 c] 32 false):=by rw [hw1]; show (w.heap.put _ _).get _=_; rw [get_put,if_pos rfl]; rfl
 have hbx:boxA w 32 (.agg ⟨ruleC a b c⟩)=.val (.pointer (some ⟨w.next,0,none⟩)) w1:=by rw [hw1]; rfl
 have hu1:=hu.up u1
 have r53:=S53.call (P:=Tryz.prog) h.h53 (m:=m + 208) (w:=w1) ⟨a,b,c,rfl,rfl⟩
 have r54:=run54 h.o54 h.o58 (m + 207) u pods w1 hu1
 have huj:notJunk u=some u:=by obtain ⟨x,y,rfl⟩:=hu.len; rfl
 simp only [ruleC] at r53
 cases hr:ruleB a b c with
 | false =>
  rw [hr] at r53
  have hp:podE a b c pods=81:=by unfold podE; rw [hr]; rfl
  subst hw1
  simp [mc16,g1,r53,tupV,hp]
  exact ⟨[],.inl ⟨rfl,_,_,rfl⟩,rfl,u1⟩
 | true =>
  rw [hr] at r53
  cases hk:podsOk pods with
  | false =>
   rw [hk] at r54
   have hp:podE a b c pods=81:=by unfold podE; rw [hr,hk]; rfl
   subst hw1
   simp [mc16,g1,r53,huj,r54,tupV,hp]
   exact ⟨[],.inl ⟨rfl,_,_,rfl⟩,rfl,u1⟩
  | true =>
   rw [hk] at r54
   have hp:podE a b c pods=0:=by unfold podE; rw [hr,hk]; rfl
   obtain ⟨⟨a1,a2⟩,⟨b1,b2⟩,c1,c2⟩:=rule_all hr
   obtain ⟨p1,p2⟩:=pods_all hk
   obtain ⟨M,hM⟩:∃ M:Nat,a=(M:Int):=⟨a.toNat,by omega⟩
   obtain ⟨v2,w2,c56,L,hacc,hLp,hLs,u2⟩:=call56 (m + 1) h.h55.o56 h.h55.o79 h.h55.oD h.h55.h80 u pods p1 w1 (by omega) hu1
   have hLn:L.length=pods.length:=by rw [hLp.length_eq,zI_len]
   have hLb:∀ p ∈ L,1≤p.2∧p.2≤400:=fun p hp=>by
    have:=(zI_mem (hLp.mem_iff.1 hp)).2
    exact p2 p.2 (List.mem_of_getElem? this)
   obtain ⟨v3,w3,c55,acc,hra,hae,hrun,hok3,u3⟩:=call55 m h.h55 M (by omega) b c ⟨c1,c2⟩ v2 L (by omega) hLb _ w2 (by have:=u2.next; have:=u2.lim; omega) hacc
   have g2:w2.heap.get w.next=some (.cells [.int .i64 a,.int .i64 b,.int .i64 c] 32 false):=(u2.at (by omega)).trans g1
   rw [← hM] at c55
   simp only [ruleC] at c55
   have hok2:=hacc.ok
   subst hw1
   have hsame:sameVal 5 (.agg ⟨[.int .i64 a,.int .i64 b,.int .i64 c]⟩) (.agg ⟨[.int .i64 a,.int .i64 b,.int .i64 c]⟩)=true:=same_agg _ (by
    intro v hv
    simp at hv
    rcases hv with rfl | rfl | rfl <;> exact sameN_int 3 .i64 _)
   simp [mc16,g1,r53,huj,r54,c56,hok2,g2,c55,hok3,hsame,tupV,hp]
   exact ⟨acc,hra,⟨M,hM,⟨by omega,by omega⟩,L,hLp,hLs,hrun,fun _ _ _ _ _ he=>hae _ he⟩,(u1.trans u2).trans u3⟩
theorem run4 (m:Nat) (ho:∀ args w,ov 4 args w=none) (h:Has4 ov) (a b c:Int) (u:Value) (pods:List Int) (w:AW) (hl:w.lim≤w.next) (hL:LaidW w) (hu:RowsV intC w u pods) :
  ∃ x w',(run Tryz.prog ov (m + 211)).call 4 [.agg ⟨ruleC a b c⟩,u] w .none=.ok (.ret x) w' .none∧x=.bool true:=by
 refine call_wp text4 (by simp) (ho _ _) ?_
 obtain ⟨w1,hw1⟩:∃ w1:AW,w1=⟨w.heap.put w.next (some (.cells (ruleC a b c) 32 false)),w.next + 1,w.lim⟩:=⟨_,rfl⟩
 have u1:Up w w1:=by rw [hw1]; exact (Up.refl w).add _
 have n1:w1.next=w.next + 1:=by rw [hw1]
 have l1:w1.lim=w.lim:=by rw [hw1]
 have g1:w1.heap.get w.next=some (.cells [.int .i64 a,.int .i64 b,.int .i64 c] 32 false):=by rw [hw1]; show (w.heap.put _ _).get _=_; rw [get_put,if_pos rfl]; rfl
 have hbx:boxA w 32 (.agg ⟨ruleC a b c⟩)=.val (.pointer (some ⟨w.next,0,none⟩)) w1:=by rw [hw1]; rfl
 have huj:notJunk u=some u:=by obtain ⟨x,y,rfl⟩:=hu.len; rfl
 obtain ⟨_,w2,c16,v1,acc,rfl,hra,hyes,hno,hok1,u2⟩:=call16 m h a b c u pods w1 (by omega) (hu.up u1)
 have hu2:=(hu.up u1).up u2
 have g2:w2.heap.get w.next=some (.cells [.int .i64 a,.int .i64 b,.int .i64 c] 32 false):=(u2.at (by omega)).trans g1
 have hl2:w2.lim≤w2.next:=by have:=u2.next; have:=u2.lim; omega
 obtain ⟨_,w3,c17,rfl,u3⟩:=call17 (m + 208) h.o17 h.o23 a b c u pods w2 hl2 hu2
 have hl3:w3.lim≤w3.next:=by have:=u3.next; have:=u3.lim; omega
 have u13:=(u1.trans u2).trans u3
 have hlen:=fun w'=>len34V (w':=w') hra
 simp only [ruleC] at c16 c17
 cases hok:(ruleB a b c && podsOk pods) with
 | false =>
  have hp:podE a b c pods=81:=by unfold podE; rw [hok]; rfl
  rw [hp] at c16 c17
  rw [hno hok] at hlen
  have r15:=ruleQ h.hq (hL.up u13) (m + 209)
  subst hw1
  simp [mc4,g1,huj,c16,g2,c17,hok1,hlen,r15,tupV]
 | true =>
  have hp:podE a b c pods=0:=by unfold podE; rw [hok]; rfl
  rw [hp] at c16 c17
  obtain ⟨hr,hk⟩:=Bool.and_eq_true_iff.1 hok
  obtain ⟨⟨a1,a2⟩,⟨b1,b2⟩,c1,c2⟩:=rule_all hr
  obtain ⟨p1,p2⟩:=pods_all hk
  obtain ⟨M,L,hM,hMb,hLp,hLs,hrun,hae⟩:=hyes hok
  have g3:w3.heap.get w.next=some (.cells [.int .i64 a,.int .i64 b,.int .i64 c] 32 false):=(u3.at (by have:=u2.next; omega)).trans g2
  have hu3:=hu2.up u3
  obtain ⟨_,w4,c18,rfl,u4⟩:=call18 (m + 208) h.o18 h.o57 M hMb b c ⟨c1,c2⟩ u pods p1 w3 hl3 hu3
  have hcnt:=count_ok (M:=M) (b:=b) (c:=c) hLp hLs p2
  have hal:acc.length=(runG M (bunB b c) (L.length + 1) L).length:=by rw [← hrun,List.length_map]
  rw [hcnt,← hal] at c18
  have hl4:w4.lim≤w4.next:=by have:=u4.next; have:=u4.lim; omega
  have g4:w4.heap.get w.next=some (.cells [.int .i64 a,.int .i64 b,.int .i64 c] 32 false):=(u4.at (by have:=u2.next; have:=u3.next; omega)).trans g3
  have hLn:L.length=pods.length:=by rw [hLp.length_eq,zI_len]
  have hal2:acc.length≤200:=by rw [hal]; have:=runG_len (ok:=bunB b c) hMb.1 (L.length + 1) L; omega
  have hS:=sort_ok hLp hLs hrun (fun e he=>(hae e he).2) p1
  have hra4:=(hra.up u3).up u4
  obtain ⟨_,w5,c19,rfl,u5⟩:=call19 (m + 207) h.o19 h.o25 h.o24 h.o23 M hMb.2 b c ⟨c1,c2⟩ u pods p1 p2 v1 acc hal2 w4 hl4 (hu3.up u4) hra4 (fun e he=>(((hae e he).1).up u3).up u4) hS
  have r15:=ruleQ h.hq (((hL.up u13).up u4).up u5) (m + 209)
  rw [← hM] at c18 c19
  simp only [ruleC] at c18 c19
  subst hw1
  simp [mc4,g1,huj,c16,g2,c17,hok1,hlen,g3,c18,g4,c19,r15,tupV]
end
set_option maxRecDepth 1000000 in
theorem works_true:resIs (.bool true) ((run Tryz.prog noOv 1000).call 15 [] (startA 9 laidL) .none)=true:=by kernel_rfl
theorem mixed:Tryz.prog.follows .mixedOrders=true:=by kernel_rfl
theorem globals9:Tryz.prog.globals.size=9:=by kernel_rfl
theorem no_count:NoCount Tryz.prog:=NoCount.of (by kernel_rfl)
noncomputable def oW:Ov:=memoOv 15 [] laidL (.bool true) noOv
theorem okW':OvOk Tryz.prog oW:=memo_ok no_count mixed ov_none works_true (by kernel_rfl) (by kernel_rfl) (by rw [globals9]; exact Nat.le_refl _) (by kernel_rfl) ov_none
theorem oW_none {f:Nat} (hf:f ≠ 15) (args:List Value) (w:AW):oW f args w=none:=by
 have:Nat.beq f 15=false:=by rw [← Bool.not_eq_true]; intro h; exact hf (Nat.eq_of_beq_eq_true h)
 simp [oW,memoOv,this,noOv]
theorem oW_has:HasQ oW:=fun w hw=>by
 simp [oW,memoOv,hw,sameL5,sameVal.sameVals]
theorem HasQ.skip {f:Nat} {F:PureF} {rest:Ov} (hf:15 ≠ f) (h:HasQ rest):HasQ (ovP f F rest):=fun w hw=>by simp [ovP,hf,h w hw]
theorem ovP_none {f g:Nat} {F:PureF} {rest:Ov} (hne:g ≠ f) (h:∀ args w,rest g args w=none) (args:List Value) (w:AW):ovP f F rest g args w=none:=by simp [ovP,hne,h]
noncomputable def ovL:List (Nat × PureF)→Ov
 | []=>oW
 | x::l=>ovP x.1 x.2 (ovL l)
def keyB (g:Nat):List (Nat × PureF)→Bool
 | []=>Nat.beq g 15
 | x::l=>Nat.beq g x.1 || keyB g l
def lookF (g:Nat):List (Nat × PureF)→Option PureF
 | []=>none
 | x::l=>bif Nat.beq g x.1 then some x.2 else lookF g l
theorem beq_no {a b:Nat} (h:Nat.beq a b=false):a ≠ b:=fun e=>by rw [e,Nat.beq_refl] at h; cases h
theorem chN {g:Nat}:∀ {l:List (Nat × PureF)},keyB g l=false→∀ args w,ovL l g args w=none
 | [],h=>oW_none (beq_no h)
 | x::l,h=>by
  simp only [keyB,Bool.or_eq_false_iff] at h
  exact ovP_none (beq_no h.1) (chN h.2)
theorem chH {g:Nat} {F:PureF}:∀ {l:List (Nat × PureF)},lookF g l=some F→HasP (ovL l) g F
 | [],h=>by cases h
 | x::l,h=>by
  simp only [lookF] at h
  cases hb:Nat.beq g x.1 with
  | true =>
   rw [hb] at h
   cases h
   have e:=Nat.eq_of_beq_eq_true hb
   subst e
   exact .here
  | false =>
   rw [hb] at h
   exact HasP.skip (beq_no hb) (chH h)
def memB (g:Nat):List (Nat × PureF)→Bool
 | []=>false
 | x::l=>Nat.beq g x.1 || memB g l
theorem chW:∀ {l:List (Nat × PureF)},memB 15 l=false→HasQ (ovL l)
 | [],_=>oW_has
 | x::l,h=>by
  simp only [memB,Bool.or_eq_false_iff] at h
  exact HasQ.skip (beq_no h.1) (chW h.2)
noncomputable def cl159:List (Nat × PureF):=(159,S159.F)::[]
noncomputable def o159:Ov:=ovL cl159
theorem ok159:OvOk Tryz.prog (ovP 159 S159.F (ovL [])):=S159.ok no_count mixed okW' fun args w v hl h=>by
 obtain ⟨a,b,rfl,rfl⟩:=h
 obtain ⟨v',w',hc,e⟩:=run159 (ov:=(ovL [])) (chN rfl) (chN rfl) a b w
 exact ⟨rfl,3,v',w',_,hc,e⟩
noncomputable def cl80:List (Nat × PureF):=(80,S80.F)::cl159
noncomputable def o80:Ov:=ovL cl80
theorem ok80:OvOk Tryz.prog (ovP 80 S80.F o159):=S80.ok no_count mixed ok159 fun args w v hl h=>by
 obtain ⟨p,q,rfl,rfl⟩:=h
 obtain ⟨v',w',hc,e⟩:=run80 (ov:=o159) (chN rfl) (chN rfl) (chN rfl) (chN rfl) p q w hl
 exact ⟨rfl,4,v',w',_,hc,e⟩
noncomputable def cl53:List (Nat × PureF):=(53,S53.F)::cl80
noncomputable def o53:Ov:=ovL cl53
theorem ok53:OvOk Tryz.prog (ovP 53 S53.F o80):=S53.ok no_count mixed ok80 fun args w v hl h=>by
 obtain ⟨a,b,c,rfl,rfl⟩:=h
 obtain ⟨v',w',hc,e⟩:=run53 (ov:=o80) (chN rfl) (chN rfl) a b c w hl
 exact ⟨rfl,2,v',w',_,hc,e⟩
noncomputable def cl77:List (Nat × PureF):=(77,S77.F)::cl53
noncomputable def o77:Ov:=ovL cl77
theorem ok77:OvOk Tryz.prog (ovP 77 S77.F o53):=S77.ok no_count mixed ok53 fun args w v hl h=>by
 obtain ⟨a,b,c,u,l,rfl,hu,hne,⟨hll,hb,h1,h2⟩,rfl⟩:=h
 obtain ⟨v',w',hc,e⟩:=run77 (ov:=o53) (chN rfl) a b c u l w hl hu hne hll hb ⟨h1,h2⟩
 exact ⟨rfl,2,v',w',_,hc,e⟩
theorem topI:OsI o77:=⟨chN rfl,chN rfl,chN rfl,chN rfl,chN rfl,chN rfl,chN rfl,chN rfl,chN rfl,chN rfl,chN rfl,chN rfl,chN rfl,chN rfl,chN rfl,chN rfl,chN rfl⟩
theorem topD:OsD o77:=⟨chN rfl,chN rfl,chN rfl,chN rfl,chN rfl,chN rfl,chN rfl,chN rfl,chN rfl,chN rfl,chN rfl,chN rfl,chN rfl,chN rfl,chN rfl,chN rfl,chN rfl⟩
theorem top55:Has55 o77:=⟨chN rfl,chN rfl,chN rfl,chN rfl,chN rfl,topI,topD,chH rfl,chH rfl,chH rfl⟩
theorem topHas4:Has4 o77:=⟨top55,chN rfl,chN rfl,chN rfl,chN rfl,chN rfl,chN rfl,chN rfl,chN rfl,chN rfl,chN rfl,chH rfl,chW rfl⟩
open Go Go.Sh Go.ChangeShapes
theorem start0:(startH laidL).get 0=some (.cells (signL.map fun z=>Value.int .u8 z) 96 true):=by
 show ((((startH []).put 3 (some (.cells [unk] 119 true))).put 1 (some (.cells (pow10.map fun z=>Value.int .u64 z) 225 true))).put 0 (some (.cells (signL.map fun z=>Value.int .u8 z) 96 true))).get 0=_
 rw [get_put,if_pos rfl]
theorem start1:(startH laidL).get 1=some (.cells (pow10.map fun z=>Value.int .u64 z) 225 true):=by
 show ((((startH []).put 3 (some (.cells [unk] 119 true))).put 1 (some (.cells (pow10.map fun z=>Value.int .u64 z) 225 true))).put 0 (some (.cells (signL.map fun z=>Value.int .u8 z) 96 true))).get 1=_
 rw [get_put,if_neg (by decide),get_put,if_pos rfl]
theorem start3:(startH laidL).get 3=some (.cells [unk] 119 true):=by
 show ((((startH []).put 3 (some (.cells [unk] 119 true))).put 1 (some (.cells (pow10.map fun z=>Value.int .u64 z) 225 true))).put 0 (some (.cells (signL.map fun z=>Value.int .u8 z) 96 true))).get 3=_
 rw [get_put,if_neg (by decide),get_put,if_neg (by decide),get_put,if_pos rfl]
theorem ty32:tyOk Tryz.prog 6 32=true:=by kernel_rfl
theorem ty33:tyOk Tryz.prog 6 33=true:=by kernel_rfl
theorem u3:Tryz.prog.underlying 3=some (.int .i64):=by kernel_rfl
theorem u32:Tryz.prog.underlying 32=some (.struct (fieldsOf Tryz.prog 32)):=by kernel_rfl
theorem u33:Tryz.prog.underlying 33=some (.slice 3):=by kernel_rfl
theorem f32:(fieldsOf Tryz.prog 32).toList.map (fun f=>(f.type,f.offset))=[(3,0),(3,1),(3,2)]:=by kernel_rfl
theorem c3:Tryz.prog.cellsOf 3=1:=by kernel_rfl
theorem c32:Tryz.prog.cellsOf 32=3:=by kernel_rfl
theorem rule_arg {A:AW} {m:Value} (h:ArgT Tryz.prog A.heap A.next 32 m):∃ a b c:Int,m=.agg ⟨ruleC a b c⟩:=by
 unfold ArgT at h
 rw [u32] at h
 obtain ⟨c,rfl,h⟩:=h
 obtain ⟨hl,hf⟩:=h.toStruct u32
 rw [f32] at hf
 rw [c32] at hl
 obtain ⟨a,ha,_⟩:=(hf (3,0) (by simp)).toInt u3
 obtain ⟨b,hb,_⟩:=(hf (3,1) (by simp)).toInt u3
 obtain ⟨d,hd,_⟩:=(hf (3,2) (by simp)).toInt u3
 rw [c3] at ha hb hd
 match c,hl with
 | [x0,x1,x2],_ =>
  simp at ha hb hd
  exact ⟨a,b,d,by rw [ha,hb,hd]; rfl⟩
theorem ints_arg {A:AW} {m:Value} (h:ArgT Tryz.prog A.heap A.next 33 m):∃ l,RowsV intC A m l:=by
 unfold ArgT at h
 rw [u33] at h
 obtain ⟨v,l,hv,hr⟩:=rows_of_WT (lim:=A.lim) u33 c3 intC_length (fun cs h=>by
  obtain ⟨z,hz,_⟩:=h.toInt u3
  exact ⟨z,hz⟩) h
 cases hv
 exact ⟨l,hr⟩
theorem start_true (A:AW) (ms:List Value) (hl:A.lim=A.next) (hG:Tryz.prog.globals.size≤A.next) (hs:∀ b,b < Tryz.prog.globals.size→A.heap.get b=(startH laidL).get b) (hms:ArgsT Tryz.prog A.heap A.next [32,33] ms) (hz:∀ (j:Nat) t e a k c,([32,33]:List TypeId)[j]?=some t→Tryz.prog.underlying t=some (.slice e)→ms[j]?=some (.slice a k c)→k * Tryz.prog.bytesOf e≤reachBytes) :
  ∃ A' x',(run Tryz.prog o77 211).call 4 ms A .none=.ok (.ret (.bool true)) A' x':=by
 rw [globals9] at hG hs
 match ms,hms with
 | [m,u],hm =>
  obtain ⟨a,b,c,rfl⟩:=rule_arg hm.1
  obtain ⟨pods,hu⟩:=ints_arg hm.2.1
  obtain ⟨_,w',hc,rfl⟩:=run4 0 (chN rfl) topHas4 a b c u pods A (Nat.le_of_eq hl) ⟨⟨true,by rw [hs 0 (by decide),start0]⟩,⟨true,by rw [hs 1 (by decide),start1]⟩,⟨true,by rw [hs 3 (by decide),start3]⟩,hG⟩ hu
  exact ⟨w',_,hc⟩
open Go.ChangeShapes Go.WideShapes Go.ChangeAt Go.RowKit Go.Sh
theorem own:ownKnob Tryz.prog.godebug=none:=by kernel_rfl
theorem row0:RowOf Tryz.prog 0 37 96:=.of (by kernel_rfl)
theorem row1:RowOf Tryz.prog 1 20 225:=.of (by kernel_rfl)
theorem row3:RowOf Tryz.prog 3 1 119:=.of (by kernel_rfl)
theorem g0:Tryz.prog.globalNamed "rostellum/tin.signs"=some 0:=by kernel_rfl
theorem g1:Tryz.prog.globalNamed "internal/strconv.uint64pow10"=some 1:=by kernel_rfl
theorem g3:Tryz.prog.globalNamed "strconv.ErrSyntax"=some 3:=by kernel_rfl
theorem t0:(Tryz.prog.globals[0]?).map (·.type)=some 96:=by kernel_rfl
theorem t1:(Tryz.prog.globals[1]?).map (·.type)=some 225:=by kernel_rfl
theorem t3:(Tryz.prog.globals[3]?).map (·.type)=some 119:=by kernel_rfl
theorem size_le {g:Nat} (h:g < 9):g < Tryz.prog.globals.size:=by rw [globals9]; exact h
theorem u96:Tryz.prog.underlying 96=some (.array 37 5):=by kernel_rfl
theorem u225:Tryz.prog.underlying 225=some (.array 20 146):=by kernel_rfl
theorem u146:Tryz.prog.underlying 146=some (.int .u64):=by kernel_rfl
theorem u5:Tryz.prog.underlying 5=some (.int .u8):=by kernel_rfl
theorem u119:Tryz.prog.underlying 119=some (.interface #[("Error",123)]):=by kernel_rfl
theorem c5:Tryz.prog.cellsOf 5=1:=by kernel_rfl
theorem c96:Tryz.prog.cellsOf 96=37:=by kernel_rfl
theorem c146:Tryz.prog.cellsOf 146=1:=by kernel_rfl
theorem c225:Tryz.prog.cellsOf 225=20:=by kernel_rfl
def laidRow:List (String × DataW Unit):=[("math/bits.deBruijn32tab",Rows.laid_math_bits_deBruijn32tab),("math/bits.deBruijn64tab",Rows.laid_math_bits_deBruijn64tab),("internal/strconv.uint64pow10",Rows.laid_internal_strconv_uint64pow10),("unicode/utf8.acceptRanges",Rows.laid_unicode_utf8_acceptRanges),("strconv.ErrRange",Rows.laid_strconv_ErrRange),("strconv.ErrSyntax",Rows.laid_strconv_ErrSyntax),("rostellum/tin.signs",Rows.laid_rostellum_tin_signs),("unicode/utf8.first",Rows.laid_unicode_utf8_first)]
theorem laid_ok {W:World} (hs:W.ShapedOpen Tryz.prog) (hL:laidMet Tryz.prog laidRow W):LaidOk Tryz.prog W laidL:=by
 intro x hx
 unfold laidL at hx
 rcases List.mem_cons.1 hx with rfl | hx
 ·exact laid_tab hs hL (zs:=signL) (.tail _ (.tail _ (.tail _ (.tail _ (.tail _ (.tail _ (.head _))))))) g0 (size_le (by decide)) t0 u96 u5 c5 c96 row0
 rcases List.mem_cons.1 hx with rfl | hx
 ·exact laid_tab hs hL (zs:=pow10) (.tail _ (.tail _ (.head _))) g1 (size_le (by decide)) t1 u225 u146 c146 c225 row1
 rcases List.mem_cons.1 hx with rfl | hx
 ·exact laid_iface hs hL (.tail _ (.tail _ (.tail _ (.tail _ (.tail _ (.head _)))))) g3 (size_le (by decide)) t3 u119 row3
 ·cases hx
theorem kids:Kids Tryz.prog (· < Tryz.prog.types.size):=kids_rows (by kernel_rfl) (by kernel_rfl)
theorem wide:slicesWide Tryz.prog=true:=by kernel_rfl
noncomputable def laidWorld (os:Os):World :=
 let w0:=World.holding Tryz.prog os ⟨#[],#[],[]⟩
 let put (h:Array Obj) (g:Nat) (cs:Array Value):Array Obj:=h.modify g fun
  | .cells _ t frozen=>.cells cs t frozen
  | o=>o
 let ints (k:IntKind) (zs:List Int):Array Value:=(zs.map fun z=>Value.int k z).toArray
 let h:=put w0.heap 0 (ints .u8 signL)
 let h:=put h 1 (ints .u64 pow10)
 let h:=put h 3 #[.iface 250 (.pointer (some ⟨14,0,none⟩))]
 let h:=put h 4 #[.iface 250 (.pointer (some ⟨15,0,none⟩))]
 let h:=put h 5 (ints .u8 [0,1,28,2,29,14,24,3,30,22,20,15,25,17,4,8,31,27,13,23,21,19,16,7,26,12,18,6,11,5,10,9])
 let h:=put h 6 (ints .u8 [0,1,56,2,57,49,28,3,61,58,42,50,38,29,17,4,62,47,59,36,45,43,51,22,53,39,33,30,24,18,12,5,63,55,48,27,60,41,37,16,46,35,44,21,52,32,23,11,54,26,40,15,34,20,31,10,25,14,19,9,13,8,7,6])
 let h:=put h 7 (ints .u8 [240,240,240,240,240,240,240,240,240,240,240,240,240,240,240,240,240,240,240,240,240,240,240,240,240,240,240,240,240,240,240,240,240,240,240,240,240,240,240,240,240,240,240,240,240,240,240,240,240,240,240,240,240,240,240,240,240,240,240,240,240,240,240,240,240,240,240,240,240,240,240,240,240,240,240,240,240,240,240,240,240,240,240,240,240,240,240,240,240,240,240,240,240,240,240,240,240,240,240,240,240,240,240,240,240,240,240,240,240,240,240,240,240,240,240,240,240,240,240,240,240,240,240,240,240,240,240,240,241,241,241,241,241,241,241,241,241,241,241,241,241,241,241,241,241,241,241,241,241,241,241,241,241,241,241,241,241,241,241,241,241,241,241,241,241,241,241,241,241,241,241,241,241,241,241,241,241,241,241,241,241,241,241,241,241,241,241,241,241,241,241,241,241,241,2,2,2,2,2,2,2,2,2,2,2,2,2,2,2,2,2,2,2,2,2,2,2,2,2,2,2,2,2,2,19,3,3,3,3,3,3,3,3,3,3,3,3,35,3,3,52,4,4,4,68,241,241,241,241,241,241,241,241,241,241,241])
 let h:=put h 8 (ints .u8 [128,191,160,191,128,159,144,191,128,143,0,0,0,0,0,0,0,0,0,0,0,0,0,0,0,0,0,0,0,0,0,0])
 { w0 with heap:=(h.push (.cells #[.string ⟨#[105,110,118,97,108,105,100,32,115,121,110,116,97,120]⟩] 252)).push (.cells #[.string ⟨#[118,97,108,117,101,32,111,117,116,32,111,102,32,114,97,110,103,101]⟩] 252) }
theorem laid_met (os:Os) (args:Array Value):laidMet Tryz.prog laidRow ((laidWorld os).forCall (fun _ _=>0) ⟨#[],args,[]⟩).memory :=
 laidMet_of_run' 8 (by kernel_rfl) (by kernel_rfl)
theorem reads (os:Os) {H:Type} (enc:TypeId × Value→H):∃ places,DataW.whole enc Tryz.prog ((laidWorld os).forCall (fun _ _=>0) ⟨#[],#[.agg ⟨[.int .i64 0,.int .i64 0,.int .i64 0]⟩,.slice none 0 0],[]⟩).memory Tryz.f4.params.toList Rows.tinSortsSpec.vars false (#[Value.agg ⟨[.int .i64 0,.int .i64 0,.int .i64 0]⟩,.slice none 0 0]:Array Value).toList 8=some ([.agg [.lit (.int .i64 0),.lit (.int .i64 0),.lit (.int .i64 0)],.nil],[],places) :=
 ⟨[],by kernel_rfl⟩
theorem mem_all {t a b:Nat} (h:t ∈ [a,b]):t=a∨t=b:=by simpa using h
theorem params4:Tryz.f4.params.toList=[32,33]:=by kernel_rfl
set_option maxRecDepth 100000 in
theorem contract (H:Type) (enc:TypeId × Value→H) (W:World) (base:Nat) (args:Array Value) (ds gs:List (DataW H)) (before:List MemPlace)
  (hval:∀ (j:Nat) t v,Tryz.f4.params[j]?=some t→args[j]?=some v→Value.okWide Tryz.prog W .any base t v)
  (hW:DataW.Whole enc Tryz.prog Tryz.f4.params.toList Rows.tinSortsSpec.vars false W args.toList ds gs before) {tw:List TypeId} (hz:(DataW.weightsEach Tryz.prog (Tryz.f4.params.toList++tw) (ds++gs)).all (·≤reachBytes)=true) (hL:laidMet Tryz.prog laidRow W) (hs:W.ShapedOpen Tryz.prog) :
  Calls Tryz.prog 4 args W fun e W'=>∃ v,e=.returned v∧Rows.tinSortsSpec.post enc Tryz.prog Tryz.f4 false true false false W args v W':=by
 have hW':=hW
 obtain ⟨vs⟩:=args
 obtain ⟨p,q,hA,hV,rfl,hfz,hnd⟩:=hW
 obtain ⟨rfl,rfl⟩:=trodVars_none hV
 have hA':=hA
 rw [params4] at hA'
 rw [params4] at hz
 obtain ⟨_,hlen⟩:=trodAll_length _ _ _ _ hA'
 have key:=input_sized no_count mixed ok77 (laid_ok hs hL) (d:=6) (ts:=[32,33]) (f:=4) (m:=211) (fun t ht=>by rcases mem_all ht with rfl | rfl; exact ty32; exact ty33) (fun j t v h1 h2=>hval j t v (by rw [← Array.getElem?_toList,params4]; exact h1) (by simpa using h2)) hA' hlen hz start_true
 match ds,hlen with
 | [d1,d2],_ =>
  refine key.mono fun e W' ⟨he,hk⟩=>?_
  subst he
  exact ⟨_,rfl,post_stays (pa:=p) (pv:=[]) hW' (fun _ _ _=>trodAll_cons_mk (shut_bool Tryz.underlying4 _) trodAll_mk0)
   (fun sp hsp=>by
    show DataW.TrodAll enc Tryz.prog W' 0 sp true Tryz.f4.params.toList vs [d1,d2] p
    rw [params4]
    exact args_again kids wide hk [32,33] vs [d1,d2] p (fun t ht=>by rcases mem_all ht with rfl | rfl <;> decide +kernel) hA' (fun x hx=>hW'.lt x (by simpa using hx)) (fun x hx=>hsp x (by simpa using hx)))
   (fun _ _=>rfl) rfl hk (ok_one (by kernel_rfl) rfl (okWide_bool_mk Tryz.underlying4 _))⟩
set_option maxRecDepth 100000 in
theorem lifted (os:Os) (started:os.Started) (H:Type) (enc:TypeId × Value→H) (F:Stop.Interp) :
  ReturnsInHanded {} Tryz.checked os 4 .any ((OpenSpec.ofChange Rows.tinSortsSpec).preRow enc Tryz.prog Tryz.f4 Rows.tinSortsRow.domain false Rows.tinSortsRow.laid) (((OpenSpec.ofChange Rows.tinSortsSpec).at F).post enc Tryz.prog Tryz.f4 false true false false):=by
 obtain ⟨places,hx⟩:=reads os enc
 refine returnsInHanded_of_row (C:=Tryz.checked) (s:=OpenSpec.ofChange Rows.tinSortsSpec) own started (by kernel_rfl) Tryz.func4
  (witness_row_atRef (enc:=enc) (C:=Tryz.checked) false (laidWorld os) #[.agg ⟨[.int .i64 0,.int .i64 0,.int .i64 0]⟩,.slice none 0 0] rfl (by kernel_rfl) (by kernel_rfl) (by kernel_rfl)
   (OpenSpec.preRow_of_cond 8 hx (by kernel_rfl) (fun k hk=>by cases hk) (by kernel_rfl) (laid_met os _))) ?_
 intro W base args ds gs before hval hW _ _ hz hL hs _
 exact contract H enc W base args ds gs before hval hW hz hL hs
theorem said:Rows.TinSortsSaid :=
 OpenClaim.holds_of_cond 4 Tryz.f4 rfl rfl rfl rfl rfl rfl rfl ⟨rfl,rfl,rfl,rfl,rfl⟩ rfl rfl rfl rfl rfl (by kernel_rfl) Tryz.func4 (by kernel_rfl)
  (of_decide_eq_true (by kernel_rfl)) (by unfold Func.isWrapper; first | (rw [if_pos (by decide +kernel)]; kernel_rfl) | (rw [if_neg (by decide +kernel)]; exact ⟨rfl,rfl⟩))
  (fun os started H enc _ F=>by rw [OpenClaim.pre_eq_preRow]; exact lifted os started H enc F)
theorem plain (f:FuncId) (fn:Func) (hf:Tryz.pinned.checked.prog.funcNamed "rostellum/rostellumlaw08.TinSorts"=some f) (hfn:Tryz.pinned.checked.prog.funcs[f]?=some fn) :
  true=Tryz.pinned.checked.prog.looks []∧∀ (j:Nat) t,fn.params[j]?=some t→Tryz.pinned.checked.prog.wantsStandIn t=false:=by
 obtain rfl:f=4:=Option.some.inj ((show Tryz.prog.funcNamed "rostellum/rostellumlaw08.TinSorts"=some 4 by kernel_rfl).symm.trans hf) |>.symm
 obtain rfl:fn=Tryz.f4:=(Option.some.inj (Tryz.func4.symm.trans hfn)).symm
 refine ⟨by kernel_rfl,fun j t ht=>?_⟩
 have h1:t ∈ Tryz.f4.params.toList:=by
  rw [← Array.getElem?_toList] at ht
  exact List.mem_of_getElem? ht
 rw [params4] at h1
 have k32:Tryz.prog.wantsStandIn 32=false:=by kernel_rfl
 have k33:Tryz.prog.wantsStandIn 33=false:=by kernel_rfl
 rcases mem_all h1 with rfl | rfl
 ·exact k32
 ·exact k33
set_option maxRecDepth 100000 in
theorem card:Rows.TinSortsCardSaid :=
 Claim7.holds_tied_plain_at .later [] _ _ _ _ said (fun _ h=>by cases h) (by kernel_rfl) (fun _ h=>by cases h) tinSorts_row_tie rfl ⟨rfl,rfl⟩ (by kernel_rfl) rfl plain (by kernel_rfl)
end Go.Proofs.YtdgllbepplldoaaGreatDoor.walk
